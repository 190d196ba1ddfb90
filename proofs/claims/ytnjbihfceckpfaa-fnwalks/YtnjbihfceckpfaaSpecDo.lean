/-
 Chapter 12, the specification's side: l12Do.
-/
import Derived.Test.YtnjbihfceckpfaaG00Stmt
import Derived.Test.YtnjbihfceckpfaaG20Lists
import Derived.Test.YtnjbihfceckpfaaG10SpecFlow
import Derived.Test.YtnjbihfceckpfaaRegionLast
namespace Go.Proofs.Ytnjbihfceckpfaa
open Go.RowKit
set_option linter.unusedVariables false
set_option linter.unusedSimpArgs false
set_option maxHeartbeats 4000000
set_option maxRecDepth 20000

/-- The specification's state in memory: block B. -/
structure SSt (w : World) (base B : Nat) (op : List (Nat × Nat × Int)) (h : Int) : Prop where
 at_ : base ≤ B
 ex : ∃ ov kv, w.heap[B]? = some (.cells #[ov, kv, .int .i64 h] 114 (0, 0)) ∧ w.ownsRow base 56 2 ov op.length (ints (flatP op)) ∧ w.ownsRow base 2 1 kv op.length (ints (keptP op))

theorem do_cells3 {w : World} {b : Nat} {x0 x1 x2 : Value} {T : TypeId} (h : w.heap[b]? = some (.cells #[x0, x1, x2] T (0, 0))) :
 w.cell? ⟨b, 0, none⟩ = some x0 ∧ w.cell? ⟨b, 1, none⟩ = some x1 ∧ w.cell? ⟨b, 2, none⟩ = some x2 ∧ w.frozen? ⟨b, 0, none⟩ = false ∧ w.frozen? ⟨b, 1, none⟩ = false ∧ w.frozen? ⟨b, 2, none⟩ = false := by
 refine ⟨?_, ?_, ?_, ?_, ?_, ?_⟩ <;> simp [World.cell?, World.frozen?, h]
theorem do_cells2 {w : World} {b : Nat} {x0 x1 : Value} {T : TypeId} (h : w.heap[b]? = some (.cells #[x0, x1] T (0, 0))) :
 w.cell? ⟨b, 0, none⟩ = some x0 ∧ w.cell? ⟨b, 1, none⟩ = some x1 ∧ w.frozen? ⟨b, 0, none⟩ = false ∧ w.frozen? ⟨b, 1, none⟩ = false := by
 refine ⟨?_, ?_, ?_, ?_⟩ <;> simp [World.cell?, World.frozen?, h]

/-- A block of another type is not the row's own. -/
theorem row_not {w : World} {base : Nat} {e T : TypeId} {s n B : Nat} {v : Value} {xs : List Value} {cs : Array Value} {q : Nat × Nat} (h : w.ownsRow base e s v n xs) (hB : w.heap[B]? = some (.cells cs T q)) (hne : e ≠ T) (hk : v.ownBlock = some B) : False := by
 rcases h.2 with ⟨rfl, _⟩ | ⟨g, cap, cur, rfl, _, hg, _⟩
 · cases hk
 · cases hk
   rw [hg] at hB
   exact hne (by injection hB with h1; injection h1)

theorem own_capW {w : World} {base : Nat} {e : TypeId} {s g n cap : Nat} {xs : List Value} (h : w.ownsRow base e s (.slice (some ⟨g, 0, none⟩) n cap) n xs) : n ≤ cap := by
 rcases h.2 with ⟨e, _⟩ | ⟨g', cap', cur, e, _, _, hnc, _⟩
 · cases e
 · cases e; exact hnc

/-- The first n of them. -/
theorem own_short {w : World} {base : Nat} {e : TypeId} {s g n m cap : Nat} {xs ys : List Value} (h : w.ownsRow base e s (.slice (some ⟨g, 0, none⟩) (n + m) cap) (n + m) (xs ++ ys)) (hx : xs.length = n * s) :
 w.ownsRow base e s (.slice (some ⟨g, 0, none⟩) n cap) n xs := by
 rcases h.2 with ⟨e, _⟩ | ⟨g', cap', cur, e, k1, k2, k3, k4, k5, k6⟩
 · cases e
 · cases e
   refine ⟨hx, .inr ⟨g, cap, cur, rfl, k1, k2, by omega, k4, k5, ?_⟩⟩
   have e2 : cur.toList.take (n * s) = (cur.toList.take ((n + m) * s)).take (n * s) := by rw [List.take_take, Nat.min_eq_left (Nat.mul_le_mul_right _ (by omega))]
   rw [e2, k6, List.take_append_of_le_length (by omega), List.take_of_length_le (by omega)]

theorem l12Do (ps : List (List Stm)) (c : Int) (s : WS) (kk base B : Nat) (v : Value) (w : World) (hc : c = 1 ∨ c = 2) (hcan : CanP ps) (hk : kk ≤ 100) (hs : OkW ps s kk) (hv : ReadsP w v ps) (hSt : SSt w base B s.op s.h) (hbase : base ≤ w.heap.size)
 (hne : (stW ps s.p s.i).k = 9 → s.op ≠ []) :
 Calls Try.prog 94 #[.agg #[v], .int .i64 c, .agg #[.int .i64 s.p, .int .i64 s.i], .pointer (some ⟨B, 0, none⟩)] w fun e w' => (∃ x, e = .returned x) ∧ SSt w' base B (opS (stW ps s.p s.i) s) (hS c (stW ps s.p s.i) s) ∧ Below base w w' := by
 obtain ⟨hpo, hps⟩ := procs_of hcan hs.p
 obtain ⟨_, h12, _⟩ := procOk_parts hpo
 have hso := hs.ok hcan
 have hi := hs.i
 have hp := hs.p
 obtain ⟨ao, cap, rfl, hcc⟩ := id hv
 have hsz : ps[s.p]? = some (ps.getD s.p []) := by simp [List.getD, hp]
 obtain ⟨g, off, pv, rfl, hcell, hR⟩ := hcc s.p _ hsz
 obtain ⟨ao2, cap2, rfl, hc2⟩ := id hR
 have hst : (ps.getD s.p [])[s.i]? = some (stW ps s.p s.i) := by rw [stW_eq hi]; exact List.getElem?_eq_getElem hi
 obtain ⟨g2, off2, rfl, q0, q1, q2⟩ := hc2 s.i _ hst
 have z1 := World.block_lt_of_cell? w _ hcell
 have z2 := World.block_lt_of_cell? w _ q0
 simp only at z1 z2
 generalize stW ps s.p s.i = t at *
 obtain ⟨A, hA⟩ : ∃ A, opS t s = A := ⟨_, rfl⟩
 obtain ⟨X, hX⟩ : ∃ X, hS c t s = X := ⟨_, rfl⟩
 rw [hA, hX]
 have HA : Hid (opS t s = A) := hA
 have HX : Hid (hS c t s = X) := hX
 have HSH : Hid (Small s.h) := hs.h
 have HOP : Hid _ := hs.op
 have HLN : Hid (s.op.length ≤ 100) := Nat.le_trans hs.len hk
 clear hA hX hsz hst hcc hc2 hs
 obtain ⟨p, i, op, h⟩ := s
 simp only at *
 generalize ps.getD p [] = ss at *
 obtain ⟨W0, hW0⟩ : ∃ W0, (w.alloc (.cells #[.slice (some ⟨g, off, none⟩) ps.length cap] 30)).alloc (.cells #[.int .i64 (p : Int), .int .i64 (i : Int)] 56) = W0 := ⟨_, rfl⟩
 have b0 : Below w.heap.size w W0 := by rw [← hW0]; go_grown
 have s0 : W0.heap.size = w.heap.size + 2 := by rw [← hW0]; simp
 have H0 : W0.heap[w.heap.size]? = some (.cells #[.slice (some ⟨g, off, none⟩) ps.length cap] 30 (0, 0)) := by rw [← hW0, old_block (by simp)]; exact heap_alloc_new w _
 have H1 : W0.heap[w.heap.size + 1]? = some (.cells #[.int .i64 (p : Int), .int .i64 (i : Int)] 56 (0, 0)) := by
  rw [← hW0]
  have := heap_alloc_new (w.alloc (.cells #[.slice (some ⟨g, off, none⟩) ps.length cap] 30)) (.cells #[.int .i64 (p : Int), .int .i64 (i : Int)] 56)
  simpa using this
 have c0 := (one_cell H0).1
 obtain ⟨c1, c2, _, _⟩ := do_cells2 H1
 have hcell := (b0.cell z1).trans hcell
 have q0 := (b0.cell (p := ⟨g2, off2 + i * 3, none⟩) z2).trans q0
 have q1 := (b0.cell (p := ⟨g2, off2 + i * 3 + 1, none⟩) z2).trans q1
 have q2 := (b0.cell (p := ⟨g2, off2 + i * 3 + 2, none⟩) z2).trans q2
 have hpl : (p : Int) < (ps.length : Int) := by omega
 have hil : (i : Int) < (ss.length : Int) := by omega
 have y1 : g < W0.heap.size := by omega
 have y2 : g2 < W0.heap.size := by omega
 have y3 : w.heap.size < W0.heap.size := by omega
 have y4 : w.heap.size + 1 < W0.heap.size := by omega
 have S0 : Hid (W0.heap.size = w.heap.size + 2) := s0
 clear s0
 go_enter Try.func94, Try.ntmps94
 go_wp2_with fail
 go_region
 obtain ⟨W1, hW1⟩ : ∃ W1, (W0.alloc (.cells #[.int .i64 t.k, .int .i64 t.x, .int .i64 t.y] 92)).drew = W1 := ⟨_, rfl⟩
 have H2 : W1.heap[W0.heap.size]? = some (.cells #[.int .i64 t.k, .int .i64 t.x, .int .i64 t.y] 92 (0, 0)) := by rw [← hW1]; exact heap_alloc_new W0 _
 have b1 : Below W0.heap.size W0 W1 := by rw [← hW1]; go_grown
 rw [hW1]
 have hW1s : Hid (W1.heap.size = W0.heap.size + 1) := by show _ = _; rw [← hW1]; simp
 clear hW1
 obtain ⟨k0, k1, k2⟩ := stmt_cells H2
 have H1' : Hid _ := (b1.block _ y4).trans H1
 have B1 : Hid (Below w.heap.size w W1) := b0.trans (b1.mono b0.size)
 clear hcell q0 q1 q2 b0 b1 c0 c1 c2 H0 H1
 obtain ⟨ip, hip, hq0, hq1, hq2⟩ := info_parts infoPlace
 obtain ⟨in_, hin, hn0, hn1, hn2⟩ := info_parts infoInt
 obtain ⟨hBb, ov, kv, hblk, hov, hkv⟩ := hSt
 have hBl : B < w.heap.size := (Array.getElem?_eq_some_iff.1 hblk).1
 have HB1 : Hid _ := (B1.out.block B hBl).trans hblk
 have HOV : Hid _ := own_kept hov B1.out
 have HKV : Hid _ := own_kept hkv B1.out
 obtain ⟨d0, d1, d2, f0, f1, f2⟩ := do_cells3 HB1.out
 have hB1 : B < W1.heap.size := by have := hW1s.out; have := S0.out; omega
 have hW11 : w.heap.size + 1 < W1.heap.size := by have := hW1s.out; have := S0.out; omega
 obtain ⟨e1, e2, _, _⟩ := do_cells2 H1'.out
 have hl100 := HLN.out
 have hovs : ∃ a m c, ov = .slice a m c := own_slice hov
 have hkvs : ∃ a m c, kv = .slice a m c := own_slice hkv
 by_cases h8 : t.k = 8
 · rw [h8] at k0
   have HAA : Hid (A = op ++ [(p, i, h)]) := by
    show A = _
    rw [← HA.out]; unfold opS; rw [if_pos h8]
   have HXX : Hid (X = img (enterAns c) h) := by
    show X = _
    rw [← HX.out]; unfold hS; rw [if_pos h8]
   obtain ⟨oa, om, oc, rfl⟩ := hovs
   obtain ⟨ka, km, kc, rfl⟩ := hkvs
   clear HA HX
   go_wp2_with fail
   refine later4 (F := fun x37 x42 x44 nv y => W1.grownBy y (some B) ∧ y.heap[B]? = some (.cells ((#[.slice oa om oc, .slice ka km kc, .int .i64 h] : Array Value).setIfInBounds 0 nv) 114 (0, 0)) ∧ y.ownsRow W1.heap.size 56 2 nv (op.length + 1) (ints (flatP op) ++ [.int .i64 (p : Int), .int .i64 (i : Int)])) (R := ?PL1) (fun hk => ?reg1) ?rest1
   case reg1 =>
    refine wp_region_late (S := fun w' => w'.cell? ⟨B, 0, none⟩ = some (.slice oa om oc) ∧ w'.cell? ⟨w.heap.size + 1, 0, none⟩ = some (.int .i64 (p : Int)) ∧ w'.cell? ⟨w.heap.size + 1, 1, none⟩ = some (.int .i64 (i : Int))) (late := fun j => j == 12) (by kernel_rfl) ⟨d0, e1, e2⟩ (fun hHeld => ?_)
    refine wpAnyG_take (i := 0) (oi := ?oir0) (v := .pointer (some ⟨B, 0, none⟩)) ?hir0 (by kernel_rfl) (by kernel_rfl) (by kernel_rfl) (by kernel_rfl) ?hqr0 ?hyr0 hHeld ?hrr0
    case hir0 =>
     simp only [gA, gB, gC]
     rfl
    case hqr0 => exact fun _ _ _ h => h
    case hyr0 => exact Or.inl ⟨by kernel_rfl, fun w hSw => by go_simp⟩
    try simp only [Act.put, gD, gE, gF]
    refine wpAnyG_take (i := 2) (oi := ?oir2) (v := .pointer (some ⟨B, 0, none⟩)) ?hir2 (by kernel_rfl) (by kernel_rfl) (by kernel_rfl) (by kernel_rfl) ?hqr2 ?hyr2 hHeld ?hrr2
    case hir2 =>
     simp only [gA, gB, gC]
     rfl
    case hqr2 => exact fun _ _ _ h => h
    case hyr2 => exact Or.inl ⟨by kernel_rfl, fun w hSw => by go_simp⟩
    try simp only [Act.put, gD, gE, gF]
    refine wpAnyG_take (i := 3) (oi := ?oir3) (v := .pointer (some ⟨B, 0, none⟩)) ?hir3 (by kernel_rfl) (by kernel_rfl) (by kernel_rfl) (by kernel_rfl) ?hqr3 ?hyr3 hHeld ?hrr3
    case hir3 =>
     simp only [gA, gB, gC]
     rfl
    case hqr3 => exact fun _ _ _ h => h
    case hyr3 => exact Or.inl ⟨by kernel_rfl, fun w hSw => by go_simp⟩
    try simp only [Act.put, gD, gE, gF]
    refine wpAnyG_take (i := 4) (oi := ?oir4) (v := .pointer (some ⟨B, 0, none⟩)) ?hir4 (by kernel_rfl) (by kernel_rfl) (by kernel_rfl) (by kernel_rfl) ?hqr4 ?hyr4 hHeld ?hrr4
    case hir4 =>
     simp only [gA, gB, gC]
     rfl
    case hqr4 => exact fun _ _ _ h => h
    case hyr4 => exact Or.inl ⟨by kernel_rfl, fun w hSw => by go_simp⟩
    try simp only [Act.put, gD, gE, gF]
    refine wpAnyG_take (i := 5) (oi := ?oir5) (v := .slice oa om oc) ?hir5 (by kernel_rfl) (by kernel_rfl) (by kernel_rfl) (by kernel_rfl) ?hqr5 ?hyr5 hHeld ?hrr5
    case hir5 =>
     simp only [gA, gB, gC]
     rfl
    case hqr5 => exact fun _ _ _ h => h
    case hyr5 => exact Or.inl ⟨by kernel_rfl, fun w hSw => by obtain ⟨s1, s2, s3⟩ := hSw; go_simp⟩
    try simp only [Act.put, gD, gE, gF]
    refine wpAnyG_take (i := 7) (oi := ?oir7) (v := .agg #[.int .i64 (p : Int), .int .i64 (i : Int)]) ?hir7 (by kernel_rfl) (by kernel_rfl) (by kernel_rfl) (by kernel_rfl) ?hqr7 ?hyr7 hHeld ?hrr7
    case hir7 =>
     simp only [gA, gB, gC]
     rfl
    case hqr7 => exact fun _ _ _ h => h
    case hyr7 => exact Or.inl ⟨by kernel_rfl, fun w hSw => by obtain ⟨s1, s2, s3⟩ := hSw; go_simp⟩
    try simp only [Act.put, gD, gE, gF]
    refine wpAnyG_ready (rs := [1, 8]) (by kernel_rfl) (by simp) ?_
    refine (AllReadyG.cons (o := ?oor1) ?hor1 (fun K hK => ?hkr1) (AllReadyG.cons (o := ?oor8) ?hor8 (fun K hK => ?hkr8) AllReadyG.nil))
    case hor1 =>
     simp only [gA, gB, gC]
     rfl
    case hor8 =>
     simp only [gA, gB, gC]
     rfl
    case hkr1 =>
     go_simp
     try go_wp2_with fail
     have bz : Below W1.heap.size W1 (W1.alloc (.cells #[] 56)).drew := by go_grown
     have Ba : Hid (Below W1.heap.size W1 (W1.alloc (.cells #[] 56)).drew) := Below.trans (Below.refl _ _) (bz.mono (Nat.le_refl _))
     have Va : Hid ((W1.alloc (.cells #[] 56)).drew.ownsRow W1.heap.size 56 2 (.slice (some ⟨W1.heap.size, 0, none⟩) 0 0) 0 []) := own_mono (World.ownsRow_made W1 #[] 0 (Nat.le_refl _) (by unfold maxLen; omega) rfl) (Nat.le_refl _)
     have qa : W1.heap.size < (W1.alloc (.cells #[] 56)).drew.heap.size := by simp
     generalize (W1.alloc (.cells #[] 56)).drew = wa at *
     clear bz
     refine hK.out _ _ (Or.inr ⟨(Ba.out.cell hB1).trans d0, (Ba.out.cell hW11).trans e1, (Ba.out.cell hW11).trans e2⟩) (fun hHeld => ?_)
     replace hHeld := hHeld.resolve_left (by decide)
     clear hK K
     try simp only [Act.put, gD, gE, gF]
     refine wpAnyG_ready (rs := [6, 8]) (by kernel_rfl) (by simp) ?_
     refine (AllReadyG.cons (o := ?oora6) ?hora6 (fun K hK => ?hkra6) (AllReadyG.cons (o := ?oora8) ?hora8 (fun K hK => ?hkra8) AllReadyG.nil))
     case hora6 =>
      simp only [gA, gB, gC]
      rfl
     case hora8 =>
      simp only [gA, gB, gC]
      rfl
     case hkra6 =>
      refine step_append_row rfl (.tmp 37) (.tmp 41) 43 rfl W1.heap.size 56 ip (.agg #[.int .i64 0, .int .i64 0]) 2 16 Try.underlying43 hip hq0 hq1 hq2 rfl (by decide) (.slice (some ⟨W1.heap.size, 0, none⟩) 0 0) 0 [] rfl Va.out (.slice oa om oc) base op.length (ints (flatP op)) rfl (own_kept HOV.out Ba.out) (ints_oneCell _) (by unfold maxLen; omega) (by omega) Ba.out.size ?_
      intro v6 w6 own6 grow6
      have V6 : Hid (w6.ownsRow W1.heap.size 56 2 v6 op.length (ints (flatP op))) := by (have hh := own6; rw [Nat.zero_add, List.nil_append] at hh; exact hh)
      have B6 : Hid (Below W1.heap.size W1 w6) := Ba.out.grown grow6 Ba.out.size (fun k hk => Nat.le_trans (Nat.le_refl _) (Nat.le_of_eq (Option.some.inj (show some W1.heap.size = some k from hk))))
      clear own6 grow6
      refine hK.out _ _ (Or.inr ⟨(B6.out.cell hB1).trans d0, (B6.out.cell hW11).trans e1, (B6.out.cell hW11).trans e2⟩) (fun hHeld => ?_)
      replace hHeld := hHeld.resolve_left (by decide)
      clear hK K
      try simp only [Act.put, gD, gE, gF]
      refine wpAnyG_ready (rs := [8]) (by kernel_rfl) (by simp) ?_
      refine (AllReadyG.cons (o := ?ooraa8) ?horaa8 (fun K hK => ?hkraa8) AllReadyG.nil)
      case horaa8 =>
       simp only [gA, gB, gC]
       rfl
      case hkraa8 =>
       go_simp
       try go_wp2_with fail
       have bz : Below w6.heap.size w6 (w6.alloc (.cells #[.int .i64 (p : Int), .int .i64 (i : Int)] 56)) := by go_grown
       have Bc : Hid (Below W1.heap.size W1 (w6.alloc (.cells #[.int .i64 (p : Int), .int .i64 (i : Int)] 56))) := Below.trans B6.out (bz.mono B6.out.size)
       have Lc : Hid ((w6.alloc (.cells #[.int .i64 (p : Int), .int .i64 (i : Int)] 56)).heap[w6.heap.size]? = some (.cells #[.int .i64 (p : Int), .int .i64 (i : Int)] 56 (0, 0))) := heap_alloc_new w6 (.cells #[.int .i64 (p : Int), .int .i64 (i : Int)] 56)
       have qc : w6.heap.size < (w6.alloc (.cells #[.int .i64 (p : Int), .int .i64 (i : Int)] 56)).heap.size := by simp
       have Vc : Hid ((w6.alloc (.cells #[.int .i64 (p : Int), .int .i64 (i : Int)] 56)).ownsRow W1.heap.size 56 2 (v6) op.length (ints (flatP op))) := own_kept V6.out bz
       generalize (w6.alloc (.cells #[.int .i64 (p : Int), .int .i64 (i : Int)] 56)) = wc at *
       clear bz
       refine hK.out _ _ (Or.inr ⟨(Bc.out.cell hB1).trans d0, (Bc.out.cell hW11).trans e1, (Bc.out.cell hW11).trans e2⟩) (fun hHeld => ?_)
       replace hHeld := hHeld.resolve_left (by decide)
       clear hK K
       try simp only [Act.put, gD, gE, gF]
       refine wpAnyG_ready (rs := [9]) (by kernel_rfl) (by simp) ?_
       refine (AllReadyG.cons (o := ?ooraa9) ?horaa9 (fun K hK => ?hkraa9) AllReadyG.nil)
       case horaa9 =>
        simp only [gA, gB, gC]
        rfl
       case hkraa9 =>
        refine step_append_lies _ rfl (.tmp 42) (.tmp 44) 43 rfl W1.heap.size 56 ip (.agg #[.int .i64 0, .int .i64 0]) 2 16 Try.underlying43 hip hq0 hq1 hq2 rfl (by decide) v6 op.length _ rfl Vc.out ⟨w6.heap.size, 0, none⟩ 1 1 [.int .i64 (p : Int), .int .i64 (i : Int)] rfl rfl (World.news_of_block Lc.out) (two_one p i) (by omega) (by unfold maxLen; omega) (by omega) Bc.out.size _ rfl ?_
        intro g9 cp9 w9 own9 grow9 hat9 hlt9
        have V9 : Hid (w9.ownsRow W1.heap.size 56 2 (.slice (some ⟨g9, 0, none⟩) (op.length + 1) cp9) (op.length + 1) (ints (flatP op) ++ [.int .i64 (p : Int), .int .i64 (i : Int)])) := own9
        have B9 : Hid (Below W1.heap.size W1 w9) := Bc.out.grown grow9 Bc.out.size (fun k hk => (Vc.out.lt k hk).1)
        clear own9 grow9 hat9 hlt9
        refine hK.out _ _ (Or.inr ⟨(B9.out.cell hB1).trans d0, (B9.out.cell hW11).trans e1, (B9.out.cell hW11).trans e2⟩) (fun hHeld => ?_)
        replace hHeld := hHeld.resolve_left (by decide)
        clear hK K
        try simp only [Act.put, gD, gE, gF]
        refine wpAnyG_ready (rs := [10]) (by kernel_rfl) (by simp) ?_
        refine (AllReadyG.cons (o := ?ooraa10) ?horaa10 (fun K hK => ?hkraa10) AllReadyG.nil)
        case horaa10 =>
         simp only [gA, gB, gC]
         rfl
        case hkraa10 =>
         go_simp
         try go_wp2_with fail
         refine hK.out _ _ (Or.inr ⟨(B9.out.cell hB1).trans d0, (B9.out.cell hW11).trans e1, (B9.out.cell hW11).trans e2⟩) (fun hHeld => ?_)
         replace hHeld := hHeld.resolve_left (by decide)
         clear hK K
         try simp only [Act.put, gD, gE, gF]
         refine wpAnyG_ready (rs := [11]) (by kernel_rfl) (by simp) ?_
         refine (AllReadyG.cons (o := ?ooraa11) ?horaa11 (fun K hK => ?hkraa11) AllReadyG.nil)
         case horaa11 =>
          simp only [gA, gB, gC]
          rfl
         case hkraa11 =>
          go_simp
          try go_wp2_with fail
          refine hK.out _ _ (Or.inr ⟨(B9.out.cell hB1).trans d0, (B9.out.cell hW11).trans e1, (B9.out.cell hW11).trans e2⟩) (fun hHeld => ?_)
          replace hHeld := hHeld.resolve_left (by decide)
          clear hK K
          try simp only [Act.put, gD, gE, gF]
          refine wpAnyG_ready (rs := [12]) (by kernel_rfl) (by simp) ?_
          refine (AllReadyG.cons (o := ?ooraa12) ?horaa12 (fun K hK => ?hkraa12) AllReadyG.nil)
          case horaa12 =>
           simp only [gA, gB, gC]
           rfl
          case hkraa12 =>
           have e9 := (B9.out.block B hB1).trans HB1.out
           obtain ⟨d90, d91, d92, f90, f91, f92⟩ := do_cells3 e9
           go_simp
           try go_wp2_with fail
           refine hK.out _ _ (Or.inl rfl) (fun _ => ?_)
           clear hK K
           try simp only [Act.put, gD, gE, gF]
           refine wpAnyG_done (by kernel_rfl) ?_ _
           have G9 : Hid (W1.grownBy (w9.setCell ⟨B, 0, none⟩ (.slice (some ⟨g9, 0, none⟩) (op.length + 1) cp9)) (some B)) := grown_trans (grown_of_below B9.out _) (grown_setCellW _ _ _ _)
           have E9 : Hid _ := heap_setCell_same w9 B 0 _ _ (.slice (some ⟨g9, 0, none⟩) (op.length + 1) cp9) ((B9.out.block B hB1).trans HB1.out)
           have R9 : Hid _ := ownsRow_setCell_other V9.out (a := ⟨B, 0, none⟩) (fun e => by have := (V9.out.lt _ e).1; simp only at this; omega) (.slice (some ⟨g9, 0, none⟩) (op.length + 1) cp9)
           generalize (w9.setCell ⟨B, 0, none⟩ (.slice (some ⟨g9, 0, none⟩) (op.length + 1) cp9)) = wf at *
           generalize Value.slice (some ⟨g9, 0, none⟩) (op.length + 1) cp9 = nv at *
           generalize Value.slice (some ⟨w6.heap.size, 0, none⟩) 1 1 = x44 at *
           generalize Value.slice (some ⟨W1.heap.size, 0, none⟩) 0 0 = x37 at *
           exact hk x37 v6 x44 nv wf ⟨G9.out, E9.out, R9.out⟩
     case hkra8 =>
      go_simp
      try go_wp2_with fail
      have bz : Below wa.heap.size wa (wa.alloc (.cells #[.int .i64 (p : Int), .int .i64 (i : Int)] 56)) := by go_grown
      have Bc : Hid (Below W1.heap.size W1 (wa.alloc (.cells #[.int .i64 (p : Int), .int .i64 (i : Int)] 56))) := Below.trans Ba.out (bz.mono Ba.out.size)
      have Lc : Hid ((wa.alloc (.cells #[.int .i64 (p : Int), .int .i64 (i : Int)] 56)).heap[wa.heap.size]? = some (.cells #[.int .i64 (p : Int), .int .i64 (i : Int)] 56 (0, 0))) := heap_alloc_new wa (.cells #[.int .i64 (p : Int), .int .i64 (i : Int)] 56)
      have qc : wa.heap.size < (wa.alloc (.cells #[.int .i64 (p : Int), .int .i64 (i : Int)] 56)).heap.size := by simp
      have Vc : Hid ((wa.alloc (.cells #[.int .i64 (p : Int), .int .i64 (i : Int)] 56)).ownsRow W1.heap.size 56 2 (.slice (some ⟨W1.heap.size, 0, none⟩) 0 0) 0 ([])) := own_kept Va.out bz
      generalize (wa.alloc (.cells #[.int .i64 (p : Int), .int .i64 (i : Int)] 56)) = wc at *
      clear bz
      refine hK.out _ _ (Or.inr ⟨(Bc.out.cell hB1).trans d0, (Bc.out.cell hW11).trans e1, (Bc.out.cell hW11).trans e2⟩) (fun hHeld => ?_)
      replace hHeld := hHeld.resolve_left (by decide)
      clear hK K
      try simp only [Act.put, gD, gE, gF]
      refine wpAnyG_ready (rs := [6]) (by kernel_rfl) (by simp) ?_
      refine (AllReadyG.cons (o := ?oorab6) ?horab6 (fun K hK => ?hkrab6) AllReadyG.nil)
      case horab6 =>
       simp only [gA, gB, gC]
       rfl
      case hkrab6 =>
       refine step_append_row rfl (.tmp 37) (.tmp 41) 43 rfl W1.heap.size 56 ip (.agg #[.int .i64 0, .int .i64 0]) 2 16 Try.underlying43 hip hq0 hq1 hq2 rfl (by decide) (.slice (some ⟨W1.heap.size, 0, none⟩) 0 0) 0 [] rfl Vc.out (.slice oa om oc) base op.length (ints (flatP op)) rfl (own_kept HOV.out Bc.out) (ints_oneCell _) (by unfold maxLen; omega) (by omega) Bc.out.size ?_
       intro v6 w6 own6 grow6
       have V6 : Hid (w6.ownsRow W1.heap.size 56 2 v6 op.length (ints (flatP op))) := by (have hh := own6; rw [Nat.zero_add, List.nil_append] at hh; exact hh)
       have B6 : Hid (Below W1.heap.size W1 w6) := Bc.out.grown grow6 Bc.out.size (fun k hk => Nat.le_trans (Nat.le_refl _) (Nat.le_of_eq (Option.some.inj (show some W1.heap.size = some k from hk))))
       have L6 : Hid (w6.heap[wa.heap.size]? = _) := (grow6.block _ qc (fun e => absurd (Option.some.inj (show some (wa.heap.size) = some (W1.heap.size) from e)) (by omega))).trans Lc.out
       clear own6 grow6
       refine hK.out _ _ (Or.inr ⟨(B6.out.cell hB1).trans d0, (B6.out.cell hW11).trans e1, (B6.out.cell hW11).trans e2⟩) (fun hHeld => ?_)
       replace hHeld := hHeld.resolve_left (by decide)
       clear hK K
       try simp only [Act.put, gD, gE, gF]
       refine wpAnyG_ready (rs := [9]) (by kernel_rfl) (by simp) ?_
       refine (AllReadyG.cons (o := ?oorab9) ?horab9 (fun K hK => ?hkrab9) AllReadyG.nil)
       case horab9 =>
        simp only [gA, gB, gC]
        rfl
       case hkrab9 =>
        refine step_append_lies _ rfl (.tmp 42) (.tmp 44) 43 rfl W1.heap.size 56 ip (.agg #[.int .i64 0, .int .i64 0]) 2 16 Try.underlying43 hip hq0 hq1 hq2 rfl (by decide) v6 op.length _ rfl V6.out ⟨wa.heap.size, 0, none⟩ 1 1 [.int .i64 (p : Int), .int .i64 (i : Int)] rfl rfl (World.news_of_block L6.out) (two_one p i) (by omega) (by unfold maxLen; omega) (by omega) B6.out.size _ rfl ?_
        intro g9 cp9 w9 own9 grow9 hat9 hlt9
        have V9 : Hid (w9.ownsRow W1.heap.size 56 2 (.slice (some ⟨g9, 0, none⟩) (op.length + 1) cp9) (op.length + 1) (ints (flatP op) ++ [.int .i64 (p : Int), .int .i64 (i : Int)])) := own9
        have B9 : Hid (Below W1.heap.size W1 w9) := B6.out.grown grow9 B6.out.size (fun k hk => (V6.out.lt k hk).1)
        clear own9 grow9 hat9 hlt9
        refine hK.out _ _ (Or.inr ⟨(B9.out.cell hB1).trans d0, (B9.out.cell hW11).trans e1, (B9.out.cell hW11).trans e2⟩) (fun hHeld => ?_)
        replace hHeld := hHeld.resolve_left (by decide)
        clear hK K
        try simp only [Act.put, gD, gE, gF]
        refine wpAnyG_ready (rs := [10]) (by kernel_rfl) (by simp) ?_
        refine (AllReadyG.cons (o := ?oorab10) ?horab10 (fun K hK => ?hkrab10) AllReadyG.nil)
        case horab10 =>
         simp only [gA, gB, gC]
         rfl
        case hkrab10 =>
         go_simp
         try go_wp2_with fail
         refine hK.out _ _ (Or.inr ⟨(B9.out.cell hB1).trans d0, (B9.out.cell hW11).trans e1, (B9.out.cell hW11).trans e2⟩) (fun hHeld => ?_)
         replace hHeld := hHeld.resolve_left (by decide)
         clear hK K
         try simp only [Act.put, gD, gE, gF]
         refine wpAnyG_ready (rs := [11]) (by kernel_rfl) (by simp) ?_
         refine (AllReadyG.cons (o := ?oorab11) ?horab11 (fun K hK => ?hkrab11) AllReadyG.nil)
         case horab11 =>
          simp only [gA, gB, gC]
          rfl
         case hkrab11 =>
          go_simp
          try go_wp2_with fail
          refine hK.out _ _ (Or.inr ⟨(B9.out.cell hB1).trans d0, (B9.out.cell hW11).trans e1, (B9.out.cell hW11).trans e2⟩) (fun hHeld => ?_)
          replace hHeld := hHeld.resolve_left (by decide)
          clear hK K
          try simp only [Act.put, gD, gE, gF]
          refine wpAnyG_ready (rs := [12]) (by kernel_rfl) (by simp) ?_
          refine (AllReadyG.cons (o := ?oorab12) ?horab12 (fun K hK => ?hkrab12) AllReadyG.nil)
          case horab12 =>
           simp only [gA, gB, gC]
           rfl
          case hkrab12 =>
           have e9 := (B9.out.block B hB1).trans HB1.out
           obtain ⟨d90, d91, d92, f90, f91, f92⟩ := do_cells3 e9
           go_simp
           try go_wp2_with fail
           refine hK.out _ _ (Or.inl rfl) (fun _ => ?_)
           clear hK K
           try simp only [Act.put, gD, gE, gF]
           refine wpAnyG_done (by kernel_rfl) ?_ _
           have G9 : Hid (W1.grownBy (w9.setCell ⟨B, 0, none⟩ (.slice (some ⟨g9, 0, none⟩) (op.length + 1) cp9)) (some B)) := grown_trans (grown_of_below B9.out _) (grown_setCellW _ _ _ _)
           have E9 : Hid _ := heap_setCell_same w9 B 0 _ _ (.slice (some ⟨g9, 0, none⟩) (op.length + 1) cp9) ((B9.out.block B hB1).trans HB1.out)
           have R9 : Hid _ := ownsRow_setCell_other V9.out (a := ⟨B, 0, none⟩) (fun e => by have := (V9.out.lt _ e).1; simp only at this; omega) (.slice (some ⟨g9, 0, none⟩) (op.length + 1) cp9)
           generalize (w9.setCell ⟨B, 0, none⟩ (.slice (some ⟨g9, 0, none⟩) (op.length + 1) cp9)) = wf at *
           generalize Value.slice (some ⟨g9, 0, none⟩) (op.length + 1) cp9 = nv at *
           generalize Value.slice (some ⟨wa.heap.size, 0, none⟩) 1 1 = x44 at *
           generalize Value.slice (some ⟨W1.heap.size, 0, none⟩) 0 0 = x37 at *
           exact hk x37 v6 x44 nv wf ⟨G9.out, E9.out, R9.out⟩
    case hkr8 =>
     go_simp
     try go_wp2_with fail
     have bz : Below W1.heap.size W1 (W1.alloc (.cells #[.int .i64 (p : Int), .int .i64 (i : Int)] 56)).drew := by go_grown
     have Bb : Hid (Below W1.heap.size W1 (W1.alloc (.cells #[.int .i64 (p : Int), .int .i64 (i : Int)] 56)).drew) := Below.trans (Below.refl _ _) (bz.mono (Nat.le_refl _))
     have Lb : Hid ((W1.alloc (.cells #[.int .i64 (p : Int), .int .i64 (i : Int)] 56)).drew.heap[W1.heap.size]? = some (.cells #[.int .i64 (p : Int), .int .i64 (i : Int)] 56 (0, 0))) := heap_alloc_new W1 (.cells #[.int .i64 (p : Int), .int .i64 (i : Int)] 56)
     have qb : W1.heap.size < (W1.alloc (.cells #[.int .i64 (p : Int), .int .i64 (i : Int)] 56)).drew.heap.size := by simp
     generalize (W1.alloc (.cells #[.int .i64 (p : Int), .int .i64 (i : Int)] 56)).drew = wb at *
     clear bz
     refine hK.out _ _ (Or.inr ⟨(Bb.out.cell hB1).trans d0, (Bb.out.cell hW11).trans e1, (Bb.out.cell hW11).trans e2⟩) (fun hHeld => ?_)
     replace hHeld := hHeld.resolve_left (by decide)
     clear hK K
     try simp only [Act.put, gD, gE, gF]
     refine wpAnyG_ready (rs := [1]) (by kernel_rfl) (by simp) ?_
     refine (AllReadyG.cons (o := ?oorb1) ?horb1 (fun K hK => ?hkrb1) AllReadyG.nil)
     case horb1 =>
      simp only [gA, gB, gC]
      rfl
     case hkrb1 =>
      go_simp
      try go_wp2_with fail
      have bz : Below wb.heap.size wb (wb.alloc (.cells #[] 56)) := by go_grown
      have Ba : Hid (Below W1.heap.size W1 (wb.alloc (.cells #[] 56))) := Below.trans Bb.out (bz.mono Bb.out.size)
      have Va : Hid ((wb.alloc (.cells #[] 56)).ownsRow W1.heap.size 56 2 (.slice (some ⟨wb.heap.size, 0, none⟩) 0 0) 0 []) := own_mono (World.ownsRow_made wb #[] 0 (Nat.le_refl _) (by unfold maxLen; omega) rfl) Bb.out.size
      have qa : wb.heap.size < (wb.alloc (.cells #[] 56)).heap.size := by simp
      have La : Hid ((wb.alloc (.cells #[] 56)).heap[W1.heap.size]? = _) := (bz.block _ qb).trans Lb.out
      generalize (wb.alloc (.cells #[] 56)) = wa at *
      clear bz
      have ql : W1.heap.size < wa.heap.size := by omega
      refine hK.out _ _ (Or.inr ⟨(Ba.out.cell hB1).trans d0, (Ba.out.cell hW11).trans e1, (Ba.out.cell hW11).trans e2⟩) (fun hHeld => ?_)
      replace hHeld := hHeld.resolve_left (by decide)
      clear hK K
      try simp only [Act.put, gD, gE, gF]
      refine wpAnyG_ready (rs := [6]) (by kernel_rfl) (by simp) ?_
      refine (AllReadyG.cons (o := ?oorb6) ?horb6 (fun K hK => ?hkrb6) AllReadyG.nil)
      case horb6 =>
       simp only [gA, gB, gC]
       rfl
      case hkrb6 =>
       refine step_append_row rfl (.tmp 37) (.tmp 41) 43 rfl W1.heap.size 56 ip (.agg #[.int .i64 0, .int .i64 0]) 2 16 Try.underlying43 hip hq0 hq1 hq2 rfl (by decide) (.slice (some ⟨wb.heap.size, 0, none⟩) 0 0) 0 [] rfl Va.out (.slice oa om oc) base op.length (ints (flatP op)) rfl (own_kept HOV.out Ba.out) (ints_oneCell _) (by unfold maxLen; omega) (by omega) Ba.out.size ?_
       intro v6 w6 own6 grow6
       have V6 : Hid (w6.ownsRow W1.heap.size 56 2 v6 op.length (ints (flatP op))) := by (have hh := own6; rw [Nat.zero_add, List.nil_append] at hh; exact hh)
       have B6 : Hid (Below W1.heap.size W1 w6) := Ba.out.grown grow6 Ba.out.size (fun k hk => Nat.le_trans Bb.out.size (Nat.le_of_eq (Option.some.inj (show some wb.heap.size = some k from hk))))
       have L6 : Hid (w6.heap[W1.heap.size]? = _) := (grow6.block _ ql (fun e => absurd (Option.some.inj (show some (W1.heap.size) = some (wb.heap.size) from e)) (by omega))).trans La.out
       clear own6 grow6
       refine hK.out _ _ (Or.inr ⟨(B6.out.cell hB1).trans d0, (B6.out.cell hW11).trans e1, (B6.out.cell hW11).trans e2⟩) (fun hHeld => ?_)
       replace hHeld := hHeld.resolve_left (by decide)
       clear hK K
       try simp only [Act.put, gD, gE, gF]
       refine wpAnyG_ready (rs := [9]) (by kernel_rfl) (by simp) ?_
       refine (AllReadyG.cons (o := ?oorb9) ?horb9 (fun K hK => ?hkrb9) AllReadyG.nil)
       case horb9 =>
        simp only [gA, gB, gC]
        rfl
       case hkrb9 =>
        refine step_append_lies _ rfl (.tmp 42) (.tmp 44) 43 rfl W1.heap.size 56 ip (.agg #[.int .i64 0, .int .i64 0]) 2 16 Try.underlying43 hip hq0 hq1 hq2 rfl (by decide) v6 op.length _ rfl V6.out ⟨W1.heap.size, 0, none⟩ 1 1 [.int .i64 (p : Int), .int .i64 (i : Int)] rfl rfl (World.news_of_block L6.out) (two_one p i) (by omega) (by unfold maxLen; omega) (by omega) B6.out.size _ rfl ?_
        intro g9 cp9 w9 own9 grow9 hat9 hlt9
        have V9 : Hid (w9.ownsRow W1.heap.size 56 2 (.slice (some ⟨g9, 0, none⟩) (op.length + 1) cp9) (op.length + 1) (ints (flatP op) ++ [.int .i64 (p : Int), .int .i64 (i : Int)])) := own9
        have B9 : Hid (Below W1.heap.size W1 w9) := B6.out.grown grow9 B6.out.size (fun k hk => (V6.out.lt k hk).1)
        clear own9 grow9 hat9 hlt9
        refine hK.out _ _ (Or.inr ⟨(B9.out.cell hB1).trans d0, (B9.out.cell hW11).trans e1, (B9.out.cell hW11).trans e2⟩) (fun hHeld => ?_)
        replace hHeld := hHeld.resolve_left (by decide)
        clear hK K
        try simp only [Act.put, gD, gE, gF]
        refine wpAnyG_ready (rs := [10]) (by kernel_rfl) (by simp) ?_
        refine (AllReadyG.cons (o := ?oorb10) ?horb10 (fun K hK => ?hkrb10) AllReadyG.nil)
        case horb10 =>
         simp only [gA, gB, gC]
         rfl
        case hkrb10 =>
         go_simp
         try go_wp2_with fail
         refine hK.out _ _ (Or.inr ⟨(B9.out.cell hB1).trans d0, (B9.out.cell hW11).trans e1, (B9.out.cell hW11).trans e2⟩) (fun hHeld => ?_)
         replace hHeld := hHeld.resolve_left (by decide)
         clear hK K
         try simp only [Act.put, gD, gE, gF]
         refine wpAnyG_ready (rs := [11]) (by kernel_rfl) (by simp) ?_
         refine (AllReadyG.cons (o := ?oorb11) ?horb11 (fun K hK => ?hkrb11) AllReadyG.nil)
         case horb11 =>
          simp only [gA, gB, gC]
          rfl
         case hkrb11 =>
          go_simp
          try go_wp2_with fail
          refine hK.out _ _ (Or.inr ⟨(B9.out.cell hB1).trans d0, (B9.out.cell hW11).trans e1, (B9.out.cell hW11).trans e2⟩) (fun hHeld => ?_)
          replace hHeld := hHeld.resolve_left (by decide)
          clear hK K
          try simp only [Act.put, gD, gE, gF]
          refine wpAnyG_ready (rs := [12]) (by kernel_rfl) (by simp) ?_
          refine (AllReadyG.cons (o := ?oorb12) ?horb12 (fun K hK => ?hkrb12) AllReadyG.nil)
          case horb12 =>
           simp only [gA, gB, gC]
           rfl
          case hkrb12 =>
           have e9 := (B9.out.block B hB1).trans HB1.out
           obtain ⟨d90, d91, d92, f90, f91, f92⟩ := do_cells3 e9
           go_simp
           try go_wp2_with fail
           refine hK.out _ _ (Or.inl rfl) (fun _ => ?_)
           clear hK K
           try simp only [Act.put, gD, gE, gF]
           refine wpAnyG_done (by kernel_rfl) ?_ _
           have G9 : Hid (W1.grownBy (w9.setCell ⟨B, 0, none⟩ (.slice (some ⟨g9, 0, none⟩) (op.length + 1) cp9)) (some B)) := grown_trans (grown_of_below B9.out _) (grown_setCellW _ _ _ _)
           have E9 : Hid _ := heap_setCell_same w9 B 0 _ _ (.slice (some ⟨g9, 0, none⟩) (op.length + 1) cp9) ((B9.out.block B hB1).trans HB1.out)
           have R9 : Hid _ := ownsRow_setCell_other V9.out (a := ⟨B, 0, none⟩) (fun e => by have := (V9.out.lt _ e).1; simp only at this; omega) (.slice (some ⟨g9, 0, none⟩) (op.length + 1) cp9)
           generalize (w9.setCell ⟨B, 0, none⟩ (.slice (some ⟨g9, 0, none⟩) (op.length + 1) cp9)) = wf at *
           generalize Value.slice (some ⟨g9, 0, none⟩) (op.length + 1) cp9 = nv at *
           generalize Value.slice (some ⟨W1.heap.size, 0, none⟩) 1 1 = x44 at *
           generalize Value.slice (some ⟨wb.heap.size, 0, none⟩) 0 0 = x37 at *
           exact hk x37 v6 x44 nv wf ⟨G9.out, E9.out, R9.out⟩
   case rest1 =>
    rintro x37 x42 x44 nv y ⟨G1, E1, R1⟩
    have E1' : Hid (y.heap[B]? = some (.cells #[nv, .slice ka km kc, .int .i64 h] 114 (0, 0))) := E1
    have g1s : W1.heap.size ≤ y.heap.size := G1.size
    have HKY : Hid (y.ownsRow base 2 1 (.slice ka km kc) op.length (ints (keptP op))) := own_grown HKV.out G1 (fun k hk e => by cases e; exact row_not HKV.out HB1.out (by decide) hk)
    have HNY : Hid (y.ownsRow base 56 2 nv (op.length + 1) (ints (flatP (op ++ [(p, i, h)])))) := by
     show y.ownsRow _ _ _ _ _ _
     rw [flatP_app, ints_append]
     exact own_mono R1 (by omega)
    have GY : Hid (W1.grownBy y (some B)) := G1
    obtain ⟨l0, l1, l2, m0, m1, m2⟩ := do_cells3 E1'.out
    have hBy : B < y.heap.size := by omega
    clear G1 E1 R1 d0 d1 d2 f0 f1 f2
    go_wp2_with fail
    refine later4 (F := fun x49 x54 x59 nk z => y.grownBy z (some B) ∧ z.heap[B]? = some (.cells ((#[nv, .slice ka km kc, .int .i64 h] : Array Value).setIfInBounds 1 nk) 114 (0, 0)) ∧ z.ownsRow y.heap.size 2 1 nk (op.length + 1) (ints (keptP op) ++ [.int .i64 h])) (R := ?PL2) (fun hk => ?reg2) ?rest2
    case reg2 =>
     refine wp_region_late (S := fun w' => w'.cell? ⟨B, 1, none⟩ = some (.slice ka km kc) ∧ w'.cell? ⟨B, 2, none⟩ = some (.int .i64 h)) (late := fun j => j == 15) (by kernel_rfl) ⟨l1, l2⟩ (fun hHeld => ?_)
     refine wpAnyG_take (i := 0) (oi := ?ois0) (v := .pointer (some ⟨B, 0, none⟩)) ?his0 (by kernel_rfl) (by kernel_rfl) (by kernel_rfl) (by kernel_rfl) ?hqs0 ?hys0 hHeld ?hrs0
     case his0 =>
      simp only [gA, gB, gC]
      rfl
     case hqs0 => exact fun _ _ _ h => h
     case hys0 => exact Or.inl ⟨by kernel_rfl, fun w hSw => by go_simp⟩
     try simp only [Act.put, gD, gE, gF]
     refine wpAnyG_take (i := 2) (oi := ?ois2) (v := .pointer (some ⟨B, 0, none⟩)) ?his2 (by kernel_rfl) (by kernel_rfl) (by kernel_rfl) (by kernel_rfl) ?hqs2 ?hys2 hHeld ?hrs2
     case his2 =>
      simp only [gA, gB, gC]
      rfl
     case hqs2 => exact fun _ _ _ h => h
     case hys2 => exact Or.inl ⟨by kernel_rfl, fun w hSw => by go_simp⟩
     try simp only [Act.put, gD, gE, gF]
     refine wpAnyG_take (i := 3) (oi := ?ois3) (v := .pointer (some ⟨B, 0, none⟩)) ?his3 (by kernel_rfl) (by kernel_rfl) (by kernel_rfl) (by kernel_rfl) ?hqs3 ?hys3 hHeld ?hrs3
     case his3 =>
      simp only [gA, gB, gC]
      rfl
     case hqs3 => exact fun _ _ _ h => h
     case hys3 => exact Or.inl ⟨by kernel_rfl, fun w hSw => by go_simp⟩
     try simp only [Act.put, gD, gE, gF]
     refine wpAnyG_take (i := 4) (oi := ?ois4) (v := .pointer (some ⟨B, 1, none⟩)) ?his4 (by kernel_rfl) (by kernel_rfl) (by kernel_rfl) (by kernel_rfl) ?hqs4 ?hys4 hHeld ?hrs4
     case his4 =>
      simp only [gA, gB, gC]
      rfl
     case hqs4 => exact fun _ _ _ h => h
     case hys4 => exact Or.inl ⟨by kernel_rfl, fun w hSw => by go_simp⟩
     try simp only [Act.put, gD, gE, gF]
     refine wpAnyG_take (i := 5) (oi := ?ois5) (v := .slice ka km kc) ?his5 (by kernel_rfl) (by kernel_rfl) (by kernel_rfl) (by kernel_rfl) ?hqs5 ?hys5 hHeld ?hrs5
     case his5 =>
      simp only [gA, gB, gC]
      rfl
     case hqs5 => exact fun _ _ _ h => h
     case hys5 => exact Or.inl ⟨by kernel_rfl, fun w hSw => by obtain ⟨s1, s2⟩ := hSw; go_simp⟩
     try simp only [Act.put, gD, gE, gF]
     refine wpAnyG_take (i := 7) (oi := ?ois7) (v := .pointer (some ⟨B, 0, none⟩)) ?his7 (by kernel_rfl) (by kernel_rfl) (by kernel_rfl) (by kernel_rfl) ?hqs7 ?hys7 hHeld ?hrs7
     case his7 =>
      simp only [gA, gB, gC]
      rfl
     case hqs7 => exact fun _ _ _ h => h
     case hys7 => exact Or.inl ⟨by kernel_rfl, fun w hSw => by go_simp⟩
     try simp only [Act.put, gD, gE, gF]
     refine wpAnyG_take (i := 8) (oi := ?ois8) (v := .pointer (some ⟨B, 0, none⟩)) ?his8 (by kernel_rfl) (by kernel_rfl) (by kernel_rfl) (by kernel_rfl) ?hqs8 ?hys8 hHeld ?hrs8
     case his8 =>
      simp only [gA, gB, gC]
      rfl
     case hqs8 => exact fun _ _ _ h => h
     case hys8 => exact Or.inl ⟨by kernel_rfl, fun w hSw => by go_simp⟩
     try simp only [Act.put, gD, gE, gF]
     refine wpAnyG_take (i := 9) (oi := ?ois9) (v := .pointer (some ⟨B, 2, none⟩)) ?his9 (by kernel_rfl) (by kernel_rfl) (by kernel_rfl) (by kernel_rfl) ?hqs9 ?hys9 hHeld ?hrs9
     case his9 =>
      simp only [gA, gB, gC]
      rfl
     case hqs9 => exact fun _ _ _ h => h
     case hys9 => exact Or.inl ⟨by kernel_rfl, fun w hSw => by go_simp⟩
     try simp only [Act.put, gD, gE, gF]
     refine wpAnyG_take (i := 10) (oi := ?ois10) (v := .int .i64 h) ?his10 (by kernel_rfl) (by kernel_rfl) (by kernel_rfl) (by kernel_rfl) ?hqs10 ?hys10 hHeld ?hrs10
     case his10 =>
      simp only [gA, gB, gC]
      rfl
     case hqs10 => exact fun _ _ _ h => h
     case hys10 => exact Or.inl ⟨by kernel_rfl, fun w hSw => by obtain ⟨s1, s2⟩ := hSw; go_simp⟩
     try simp only [Act.put, gD, gE, gF]
     refine wpAnyG_ready (rs := [1, 11]) (by kernel_rfl) (by simp) ?_
     refine (AllReadyG.cons (o := ?oos1) ?hos1 (fun K hK => ?hks1) (AllReadyG.cons (o := ?oos11) ?hos11 (fun K hK => ?hks11) AllReadyG.nil))
     case hos1 =>
      simp only [gA, gB, gC]
      rfl
     case hos11 =>
      simp only [gA, gB, gC]
      rfl
     case hks1 =>
      go_simp
      try go_wp2_with fail
      have bz : Below y.heap.size y (y.alloc (.cells #[] 2)).drew := by go_grown
      have Ba : Hid (Below y.heap.size y (y.alloc (.cells #[] 2)).drew) := Below.trans (Below.refl _ _) (bz.mono (Nat.le_refl _))
      have Va : Hid ((y.alloc (.cells #[] 2)).drew.ownsRow y.heap.size 2 1 (.slice (some ⟨y.heap.size, 0, none⟩) 0 0) 0 []) := own_mono (World.ownsRow_made y #[] 0 (Nat.le_refl _) (by unfold maxLen; omega) rfl) (Nat.le_refl _)
      have qa : y.heap.size < (y.alloc (.cells #[] 2)).drew.heap.size := by simp
      generalize (y.alloc (.cells #[] 2)).drew = wa at *
      clear bz
      refine hK.out _ _ (Or.inr ⟨(Ba.out.cell hBy).trans l1, (Ba.out.cell hBy).trans l2⟩) (fun hHeld => ?_)
      replace hHeld := hHeld.resolve_left (by decide)
      clear hK K
      try simp only [Act.put, gD, gE, gF]
      refine wpAnyG_ready (rs := [6, 11]) (by kernel_rfl) (by simp) ?_
      refine (AllReadyG.cons (o := ?oosa6) ?hosa6 (fun K hK => ?hksa6) (AllReadyG.cons (o := ?oosa11) ?hosa11 (fun K hK => ?hksa11) AllReadyG.nil))
      case hosa6 =>
       simp only [gA, gB, gC]
       rfl
      case hosa11 =>
       simp only [gA, gB, gC]
       rfl
      case hksa6 =>
       refine step_append_row rfl (.tmp 49) (.tmp 53) 26 rfl y.heap.size 2 in_ (.int .i64 0) 1 8 Try.underlying26 hin hn0 hn1 hn2 rfl (by decide) (.slice (some ⟨y.heap.size, 0, none⟩) 0 0) 0 [] rfl Va.out (.slice ka km kc) base op.length (ints (keptP op)) rfl (own_kept HKY.out Ba.out) (ints_oneCell _) (by unfold maxLen; omega) (by omega) Ba.out.size ?_
       intro v6 w6 own6 grow6
       have V6 : Hid (w6.ownsRow y.heap.size 2 1 v6 op.length (ints (keptP op))) := by (have hh := own6; rw [Nat.zero_add, List.nil_append] at hh; exact hh)
       have B6 : Hid (Below y.heap.size y w6) := Ba.out.grown grow6 Ba.out.size (fun k hk => Nat.le_trans (Nat.le_refl _) (Nat.le_of_eq (Option.some.inj (show some y.heap.size = some k from hk))))
       clear own6 grow6
       refine hK.out _ _ (Or.inr ⟨(B6.out.cell hBy).trans l1, (B6.out.cell hBy).trans l2⟩) (fun hHeld => ?_)
       replace hHeld := hHeld.resolve_left (by decide)
       clear hK K
       try simp only [Act.put, gD, gE, gF]
       refine wpAnyG_ready (rs := [11]) (by kernel_rfl) (by simp) ?_
       refine (AllReadyG.cons (o := ?oosaa11) ?hosaa11 (fun K hK => ?hksaa11) AllReadyG.nil)
       case hosaa11 =>
        simp only [gA, gB, gC]
        rfl
       case hksaa11 =>
        go_simp
        try go_wp2_with fail
        have bz : Below w6.heap.size w6 (w6.alloc (.cells #[.int .i64 h] 2)) := by go_grown
        have Bc : Hid (Below y.heap.size y (w6.alloc (.cells #[.int .i64 h] 2))) := Below.trans B6.out (bz.mono B6.out.size)
        have Lc : Hid ((w6.alloc (.cells #[.int .i64 h] 2)).heap[w6.heap.size]? = some (.cells #[.int .i64 h] 2 (0, 0))) := heap_alloc_new w6 (.cells #[.int .i64 h] 2)
        have qc : w6.heap.size < (w6.alloc (.cells #[.int .i64 h] 2)).heap.size := by simp
        have Vc : Hid ((w6.alloc (.cells #[.int .i64 h] 2)).ownsRow y.heap.size 2 1 (v6) op.length (ints (keptP op))) := own_kept V6.out bz
        generalize (w6.alloc (.cells #[.int .i64 h] 2)) = wc at *
        clear bz
        refine hK.out _ _ (Or.inr ⟨(Bc.out.cell hBy).trans l1, (Bc.out.cell hBy).trans l2⟩) (fun hHeld => ?_)
        replace hHeld := hHeld.resolve_left (by decide)
        clear hK K
        try simp only [Act.put, gD, gE, gF]
        refine wpAnyG_ready (rs := [12]) (by kernel_rfl) (by simp) ?_
        refine (AllReadyG.cons (o := ?oosaa12) ?hosaa12 (fun K hK => ?hksaa12) AllReadyG.nil)
        case hosaa12 =>
         simp only [gA, gB, gC]
         rfl
        case hksaa12 =>
         refine step_append_lies _ rfl (.tmp 54) (.tmp 59) 26 rfl y.heap.size 2 in_ (.int .i64 0) 1 8 Try.underlying26 hin hn0 hn1 hn2 rfl (by decide) v6 op.length _ rfl Vc.out ⟨w6.heap.size, 0, none⟩ 1 1 [.int .i64 h] rfl rfl (World.news_of_block Lc.out) (ints_oneCell [h]) (by omega) (by unfold maxLen; omega) (by omega) Bc.out.size _ rfl ?_
         intro g9 cp9 w9 own9 grow9 hat9 hlt9
         have V9 : Hid (w9.ownsRow y.heap.size 2 1 (.slice (some ⟨g9, 0, none⟩) (op.length + 1) cp9) (op.length + 1) (ints (keptP op) ++ [.int .i64 h])) := own9
         have B9 : Hid (Below y.heap.size y w9) := Bc.out.grown grow9 Bc.out.size (fun k hk => (Vc.out.lt k hk).1)
         clear own9 grow9 hat9 hlt9
         refine hK.out _ _ (Or.inr ⟨(B9.out.cell hBy).trans l1, (B9.out.cell hBy).trans l2⟩) (fun hHeld => ?_)
         replace hHeld := hHeld.resolve_left (by decide)
         clear hK K
         try simp only [Act.put, gD, gE, gF]
         refine wpAnyG_ready (rs := [13]) (by kernel_rfl) (by simp) ?_
         refine (AllReadyG.cons (o := ?oosaa13) ?hosaa13 (fun K hK => ?hksaa13) AllReadyG.nil)
         case hosaa13 =>
          simp only [gA, gB, gC]
          rfl
         case hksaa13 =>
          go_simp
          try go_wp2_with fail
          refine hK.out _ _ (Or.inr ⟨(B9.out.cell hBy).trans l1, (B9.out.cell hBy).trans l2⟩) (fun hHeld => ?_)
          replace hHeld := hHeld.resolve_left (by decide)
          clear hK K
          try simp only [Act.put, gD, gE, gF]
          refine wpAnyG_ready (rs := [14]) (by kernel_rfl) (by simp) ?_
          refine (AllReadyG.cons (o := ?oosaa14) ?hosaa14 (fun K hK => ?hksaa14) AllReadyG.nil)
          case hosaa14 =>
           simp only [gA, gB, gC]
           rfl
          case hksaa14 =>
           go_simp
           try go_wp2_with fail
           refine hK.out _ _ (Or.inr ⟨(B9.out.cell hBy).trans l1, (B9.out.cell hBy).trans l2⟩) (fun hHeld => ?_)
           replace hHeld := hHeld.resolve_left (by decide)
           clear hK K
           try simp only [Act.put, gD, gE, gF]
           refine wpAnyG_ready (rs := [15]) (by kernel_rfl) (by simp) ?_
           refine (AllReadyG.cons (o := ?oosaa15) ?hosaa15 (fun K hK => ?hksaa15) AllReadyG.nil)
           case hosaa15 =>
            simp only [gA, gB, gC]
            rfl
           case hksaa15 =>
            have e9 := (B9.out.block B hBy).trans E1'.out
            obtain ⟨d90, d91, d92, f90, f91, f92⟩ := do_cells3 e9
            go_simp
            try go_wp2_with fail
            refine hK.out _ _ (Or.inl rfl) (fun _ => ?_)
            clear hK K
            try simp only [Act.put, gD, gE, gF]
            refine wpAnyG_done (by kernel_rfl) ?_ _
            have G9 : Hid (y.grownBy (w9.setCell ⟨B, 1, none⟩ (.slice (some ⟨g9, 0, none⟩) (op.length + 1) cp9)) (some B)) := grown_trans (grown_of_below B9.out _) (grown_setCellW _ _ _ _)
            have E9 : Hid _ := heap_setCell_same w9 B 1 _ _ (.slice (some ⟨g9, 0, none⟩) (op.length + 1) cp9) ((B9.out.block B hBy).trans E1'.out)
            have R9 : Hid _ := ownsRow_setCell_other V9.out (a := ⟨B, 1, none⟩) (fun e => by have := (V9.out.lt _ e).1; simp only at this; omega) (.slice (some ⟨g9, 0, none⟩) (op.length + 1) cp9)
            generalize (w9.setCell ⟨B, 1, none⟩ (.slice (some ⟨g9, 0, none⟩) (op.length + 1) cp9)) = wf at *
            generalize Value.slice (some ⟨g9, 0, none⟩) (op.length + 1) cp9 = nk9 at *
            generalize Value.slice (some ⟨w6.heap.size, 0, none⟩) 1 1 = x59 at *
            generalize Value.slice (some ⟨y.heap.size, 0, none⟩) 0 0 = x49 at *
            exact hk x49 v6 x59 nk9 wf ⟨G9.out, E9.out, R9.out⟩
      case hksa11 =>
       go_simp
       try go_wp2_with fail
       have bz : Below wa.heap.size wa (wa.alloc (.cells #[.int .i64 h] 2)) := by go_grown
       have Bc : Hid (Below y.heap.size y (wa.alloc (.cells #[.int .i64 h] 2))) := Below.trans Ba.out (bz.mono Ba.out.size)
       have Lc : Hid ((wa.alloc (.cells #[.int .i64 h] 2)).heap[wa.heap.size]? = some (.cells #[.int .i64 h] 2 (0, 0))) := heap_alloc_new wa (.cells #[.int .i64 h] 2)
       have qc : wa.heap.size < (wa.alloc (.cells #[.int .i64 h] 2)).heap.size := by simp
       have Vc : Hid ((wa.alloc (.cells #[.int .i64 h] 2)).ownsRow y.heap.size 2 1 (.slice (some ⟨y.heap.size, 0, none⟩) 0 0) 0 ([])) := own_kept Va.out bz
       generalize (wa.alloc (.cells #[.int .i64 h] 2)) = wc at *
       clear bz
       refine hK.out _ _ (Or.inr ⟨(Bc.out.cell hBy).trans l1, (Bc.out.cell hBy).trans l2⟩) (fun hHeld => ?_)
       replace hHeld := hHeld.resolve_left (by decide)
       clear hK K
       try simp only [Act.put, gD, gE, gF]
       refine wpAnyG_ready (rs := [6]) (by kernel_rfl) (by simp) ?_
       refine (AllReadyG.cons (o := ?oosab6) ?hosab6 (fun K hK => ?hksab6) AllReadyG.nil)
       case hosab6 =>
        simp only [gA, gB, gC]
        rfl
       case hksab6 =>
        refine step_append_row rfl (.tmp 49) (.tmp 53) 26 rfl y.heap.size 2 in_ (.int .i64 0) 1 8 Try.underlying26 hin hn0 hn1 hn2 rfl (by decide) (.slice (some ⟨y.heap.size, 0, none⟩) 0 0) 0 [] rfl Vc.out (.slice ka km kc) base op.length (ints (keptP op)) rfl (own_kept HKY.out Bc.out) (ints_oneCell _) (by unfold maxLen; omega) (by omega) Bc.out.size ?_
        intro v6 w6 own6 grow6
        have V6 : Hid (w6.ownsRow y.heap.size 2 1 v6 op.length (ints (keptP op))) := by (have hh := own6; rw [Nat.zero_add, List.nil_append] at hh; exact hh)
        have B6 : Hid (Below y.heap.size y w6) := Bc.out.grown grow6 Bc.out.size (fun k hk => Nat.le_trans (Nat.le_refl _) (Nat.le_of_eq (Option.some.inj (show some y.heap.size = some k from hk))))
        have L6 : Hid (w6.heap[wa.heap.size]? = _) := (grow6.block _ qc (fun e => absurd (Option.some.inj (show some (wa.heap.size) = some (y.heap.size) from e)) (by omega))).trans Lc.out
        clear own6 grow6
        refine hK.out _ _ (Or.inr ⟨(B6.out.cell hBy).trans l1, (B6.out.cell hBy).trans l2⟩) (fun hHeld => ?_)
        replace hHeld := hHeld.resolve_left (by decide)
        clear hK K
        try simp only [Act.put, gD, gE, gF]
        refine wpAnyG_ready (rs := [12]) (by kernel_rfl) (by simp) ?_
        refine (AllReadyG.cons (o := ?oosab12) ?hosab12 (fun K hK => ?hksab12) AllReadyG.nil)
        case hosab12 =>
         simp only [gA, gB, gC]
         rfl
        case hksab12 =>
         refine step_append_lies _ rfl (.tmp 54) (.tmp 59) 26 rfl y.heap.size 2 in_ (.int .i64 0) 1 8 Try.underlying26 hin hn0 hn1 hn2 rfl (by decide) v6 op.length _ rfl V6.out ⟨wa.heap.size, 0, none⟩ 1 1 [.int .i64 h] rfl rfl (World.news_of_block L6.out) (ints_oneCell [h]) (by omega) (by unfold maxLen; omega) (by omega) B6.out.size _ rfl ?_
         intro g9 cp9 w9 own9 grow9 hat9 hlt9
         have V9 : Hid (w9.ownsRow y.heap.size 2 1 (.slice (some ⟨g9, 0, none⟩) (op.length + 1) cp9) (op.length + 1) (ints (keptP op) ++ [.int .i64 h])) := own9
         have B9 : Hid (Below y.heap.size y w9) := B6.out.grown grow9 B6.out.size (fun k hk => (V6.out.lt k hk).1)
         clear own9 grow9 hat9 hlt9
         refine hK.out _ _ (Or.inr ⟨(B9.out.cell hBy).trans l1, (B9.out.cell hBy).trans l2⟩) (fun hHeld => ?_)
         replace hHeld := hHeld.resolve_left (by decide)
         clear hK K
         try simp only [Act.put, gD, gE, gF]
         refine wpAnyG_ready (rs := [13]) (by kernel_rfl) (by simp) ?_
         refine (AllReadyG.cons (o := ?oosab13) ?hosab13 (fun K hK => ?hksab13) AllReadyG.nil)
         case hosab13 =>
          simp only [gA, gB, gC]
          rfl
         case hksab13 =>
          go_simp
          try go_wp2_with fail
          refine hK.out _ _ (Or.inr ⟨(B9.out.cell hBy).trans l1, (B9.out.cell hBy).trans l2⟩) (fun hHeld => ?_)
          replace hHeld := hHeld.resolve_left (by decide)
          clear hK K
          try simp only [Act.put, gD, gE, gF]
          refine wpAnyG_ready (rs := [14]) (by kernel_rfl) (by simp) ?_
          refine (AllReadyG.cons (o := ?oosab14) ?hosab14 (fun K hK => ?hksab14) AllReadyG.nil)
          case hosab14 =>
           simp only [gA, gB, gC]
           rfl
          case hksab14 =>
           go_simp
           try go_wp2_with fail
           refine hK.out _ _ (Or.inr ⟨(B9.out.cell hBy).trans l1, (B9.out.cell hBy).trans l2⟩) (fun hHeld => ?_)
           replace hHeld := hHeld.resolve_left (by decide)
           clear hK K
           try simp only [Act.put, gD, gE, gF]
           refine wpAnyG_ready (rs := [15]) (by kernel_rfl) (by simp) ?_
           refine (AllReadyG.cons (o := ?oosab15) ?hosab15 (fun K hK => ?hksab15) AllReadyG.nil)
           case hosab15 =>
            simp only [gA, gB, gC]
            rfl
           case hksab15 =>
            have e9 := (B9.out.block B hBy).trans E1'.out
            obtain ⟨d90, d91, d92, f90, f91, f92⟩ := do_cells3 e9
            go_simp
            try go_wp2_with fail
            refine hK.out _ _ (Or.inl rfl) (fun _ => ?_)
            clear hK K
            try simp only [Act.put, gD, gE, gF]
            refine wpAnyG_done (by kernel_rfl) ?_ _
            have G9 : Hid (y.grownBy (w9.setCell ⟨B, 1, none⟩ (.slice (some ⟨g9, 0, none⟩) (op.length + 1) cp9)) (some B)) := grown_trans (grown_of_below B9.out _) (grown_setCellW _ _ _ _)
            have E9 : Hid _ := heap_setCell_same w9 B 1 _ _ (.slice (some ⟨g9, 0, none⟩) (op.length + 1) cp9) ((B9.out.block B hBy).trans E1'.out)
            have R9 : Hid _ := ownsRow_setCell_other V9.out (a := ⟨B, 1, none⟩) (fun e => by have := (V9.out.lt _ e).1; simp only at this; omega) (.slice (some ⟨g9, 0, none⟩) (op.length + 1) cp9)
            generalize (w9.setCell ⟨B, 1, none⟩ (.slice (some ⟨g9, 0, none⟩) (op.length + 1) cp9)) = wf at *
            generalize Value.slice (some ⟨g9, 0, none⟩) (op.length + 1) cp9 = nk9 at *
            generalize Value.slice (some ⟨wa.heap.size, 0, none⟩) 1 1 = x59 at *
            generalize Value.slice (some ⟨y.heap.size, 0, none⟩) 0 0 = x49 at *
            exact hk x49 v6 x59 nk9 wf ⟨G9.out, E9.out, R9.out⟩
     case hks11 =>
      go_simp
      try go_wp2_with fail
      have bz : Below y.heap.size y (y.alloc (.cells #[.int .i64 h] 2)).drew := by go_grown
      have Bb : Hid (Below y.heap.size y (y.alloc (.cells #[.int .i64 h] 2)).drew) := Below.trans (Below.refl _ _) (bz.mono (Nat.le_refl _))
      have Lb : Hid ((y.alloc (.cells #[.int .i64 h] 2)).drew.heap[y.heap.size]? = some (.cells #[.int .i64 h] 2 (0, 0))) := heap_alloc_new y (.cells #[.int .i64 h] 2)
      have qb : y.heap.size < (y.alloc (.cells #[.int .i64 h] 2)).drew.heap.size := by simp
      generalize (y.alloc (.cells #[.int .i64 h] 2)).drew = wb at *
      clear bz
      refine hK.out _ _ (Or.inr ⟨(Bb.out.cell hBy).trans l1, (Bb.out.cell hBy).trans l2⟩) (fun hHeld => ?_)
      replace hHeld := hHeld.resolve_left (by decide)
      clear hK K
      try simp only [Act.put, gD, gE, gF]
      refine wpAnyG_ready (rs := [1]) (by kernel_rfl) (by simp) ?_
      refine (AllReadyG.cons (o := ?oosb1) ?hosb1 (fun K hK => ?hksb1) AllReadyG.nil)
      case hosb1 =>
       simp only [gA, gB, gC]
       rfl
      case hksb1 =>
       go_simp
       try go_wp2_with fail
       have bz : Below wb.heap.size wb (wb.alloc (.cells #[] 2)) := by go_grown
       have Ba : Hid (Below y.heap.size y (wb.alloc (.cells #[] 2))) := Below.trans Bb.out (bz.mono Bb.out.size)
       have Va : Hid ((wb.alloc (.cells #[] 2)).ownsRow y.heap.size 2 1 (.slice (some ⟨wb.heap.size, 0, none⟩) 0 0) 0 []) := own_mono (World.ownsRow_made wb #[] 0 (Nat.le_refl _) (by unfold maxLen; omega) rfl) Bb.out.size
       have qa : wb.heap.size < (wb.alloc (.cells #[] 2)).heap.size := by simp
       have La : Hid ((wb.alloc (.cells #[] 2)).heap[y.heap.size]? = _) := (bz.block _ qb).trans Lb.out
       generalize (wb.alloc (.cells #[] 2)) = wa at *
       clear bz
       have ql : y.heap.size < wa.heap.size := by omega
       refine hK.out _ _ (Or.inr ⟨(Ba.out.cell hBy).trans l1, (Ba.out.cell hBy).trans l2⟩) (fun hHeld => ?_)
       replace hHeld := hHeld.resolve_left (by decide)
       clear hK K
       try simp only [Act.put, gD, gE, gF]
       refine wpAnyG_ready (rs := [6]) (by kernel_rfl) (by simp) ?_
       refine (AllReadyG.cons (o := ?oosb6) ?hosb6 (fun K hK => ?hksb6) AllReadyG.nil)
       case hosb6 =>
        simp only [gA, gB, gC]
        rfl
       case hksb6 =>
        refine step_append_row rfl (.tmp 49) (.tmp 53) 26 rfl y.heap.size 2 in_ (.int .i64 0) 1 8 Try.underlying26 hin hn0 hn1 hn2 rfl (by decide) (.slice (some ⟨wb.heap.size, 0, none⟩) 0 0) 0 [] rfl Va.out (.slice ka km kc) base op.length (ints (keptP op)) rfl (own_kept HKY.out Ba.out) (ints_oneCell _) (by unfold maxLen; omega) (by omega) Ba.out.size ?_
        intro v6 w6 own6 grow6
        have V6 : Hid (w6.ownsRow y.heap.size 2 1 v6 op.length (ints (keptP op))) := by (have hh := own6; rw [Nat.zero_add, List.nil_append] at hh; exact hh)
        have B6 : Hid (Below y.heap.size y w6) := Ba.out.grown grow6 Ba.out.size (fun k hk => Nat.le_trans Bb.out.size (Nat.le_of_eq (Option.some.inj (show some wb.heap.size = some k from hk))))
        have L6 : Hid (w6.heap[y.heap.size]? = _) := (grow6.block _ ql (fun e => absurd (Option.some.inj (show some (y.heap.size) = some (wb.heap.size) from e)) (by omega))).trans La.out
        clear own6 grow6
        refine hK.out _ _ (Or.inr ⟨(B6.out.cell hBy).trans l1, (B6.out.cell hBy).trans l2⟩) (fun hHeld => ?_)
        replace hHeld := hHeld.resolve_left (by decide)
        clear hK K
        try simp only [Act.put, gD, gE, gF]
        refine wpAnyG_ready (rs := [12]) (by kernel_rfl) (by simp) ?_
        refine (AllReadyG.cons (o := ?oosb12) ?hosb12 (fun K hK => ?hksb12) AllReadyG.nil)
        case hosb12 =>
         simp only [gA, gB, gC]
         rfl
        case hksb12 =>
         refine step_append_lies _ rfl (.tmp 54) (.tmp 59) 26 rfl y.heap.size 2 in_ (.int .i64 0) 1 8 Try.underlying26 hin hn0 hn1 hn2 rfl (by decide) v6 op.length _ rfl V6.out ⟨y.heap.size, 0, none⟩ 1 1 [.int .i64 h] rfl rfl (World.news_of_block L6.out) (ints_oneCell [h]) (by omega) (by unfold maxLen; omega) (by omega) B6.out.size _ rfl ?_
         intro g9 cp9 w9 own9 grow9 hat9 hlt9
         have V9 : Hid (w9.ownsRow y.heap.size 2 1 (.slice (some ⟨g9, 0, none⟩) (op.length + 1) cp9) (op.length + 1) (ints (keptP op) ++ [.int .i64 h])) := own9
         have B9 : Hid (Below y.heap.size y w9) := B6.out.grown grow9 B6.out.size (fun k hk => (V6.out.lt k hk).1)
         clear own9 grow9 hat9 hlt9
         refine hK.out _ _ (Or.inr ⟨(B9.out.cell hBy).trans l1, (B9.out.cell hBy).trans l2⟩) (fun hHeld => ?_)
         replace hHeld := hHeld.resolve_left (by decide)
         clear hK K
         try simp only [Act.put, gD, gE, gF]
         refine wpAnyG_ready (rs := [13]) (by kernel_rfl) (by simp) ?_
         refine (AllReadyG.cons (o := ?oosb13) ?hosb13 (fun K hK => ?hksb13) AllReadyG.nil)
         case hosb13 =>
          simp only [gA, gB, gC]
          rfl
         case hksb13 =>
          go_simp
          try go_wp2_with fail
          refine hK.out _ _ (Or.inr ⟨(B9.out.cell hBy).trans l1, (B9.out.cell hBy).trans l2⟩) (fun hHeld => ?_)
          replace hHeld := hHeld.resolve_left (by decide)
          clear hK K
          try simp only [Act.put, gD, gE, gF]
          refine wpAnyG_ready (rs := [14]) (by kernel_rfl) (by simp) ?_
          refine (AllReadyG.cons (o := ?oosb14) ?hosb14 (fun K hK => ?hksb14) AllReadyG.nil)
          case hosb14 =>
           simp only [gA, gB, gC]
           rfl
          case hksb14 =>
           go_simp
           try go_wp2_with fail
           refine hK.out _ _ (Or.inr ⟨(B9.out.cell hBy).trans l1, (B9.out.cell hBy).trans l2⟩) (fun hHeld => ?_)
           replace hHeld := hHeld.resolve_left (by decide)
           clear hK K
           try simp only [Act.put, gD, gE, gF]
           refine wpAnyG_ready (rs := [15]) (by kernel_rfl) (by simp) ?_
           refine (AllReadyG.cons (o := ?oosb15) ?hosb15 (fun K hK => ?hksb15) AllReadyG.nil)
           case hosb15 =>
            simp only [gA, gB, gC]
            rfl
           case hksb15 =>
            have e9 := (B9.out.block B hBy).trans E1'.out
            obtain ⟨d90, d91, d92, f90, f91, f92⟩ := do_cells3 e9
            go_simp
            try go_wp2_with fail
            refine hK.out _ _ (Or.inl rfl) (fun _ => ?_)
            clear hK K
            try simp only [Act.put, gD, gE, gF]
            refine wpAnyG_done (by kernel_rfl) ?_ _
            have G9 : Hid (y.grownBy (w9.setCell ⟨B, 1, none⟩ (.slice (some ⟨g9, 0, none⟩) (op.length + 1) cp9)) (some B)) := grown_trans (grown_of_below B9.out _) (grown_setCellW _ _ _ _)
            have E9 : Hid _ := heap_setCell_same w9 B 1 _ _ (.slice (some ⟨g9, 0, none⟩) (op.length + 1) cp9) ((B9.out.block B hBy).trans E1'.out)
            have R9 : Hid _ := ownsRow_setCell_other V9.out (a := ⟨B, 1, none⟩) (fun e => by have := (V9.out.lt _ e).1; simp only at this; omega) (.slice (some ⟨g9, 0, none⟩) (op.length + 1) cp9)
            generalize (w9.setCell ⟨B, 1, none⟩ (.slice (some ⟨g9, 0, none⟩) (op.length + 1) cp9)) = wf at *
            generalize Value.slice (some ⟨g9, 0, none⟩) (op.length + 1) cp9 = nk9 at *
            generalize Value.slice (some ⟨y.heap.size, 0, none⟩) 1 1 = x59 at *
            generalize Value.slice (some ⟨wb.heap.size, 0, none⟩) 0 0 = x49 at *
            exact hk x49 v6 x59 nk9 wf ⟨G9.out, E9.out, R9.out⟩
    case rest2 =>
     rintro x49 x54 x59 nk z ⟨G2, E2, R2⟩
     have E2' : Hid (z.heap[B]? = some (.cells #[nv, nk, .int .i64 h] 114 (0, 0))) := E2
     have HNZ : Hid (z.ownsRow base 56 2 nv (op.length + 1) (ints (flatP (op ++ [(p, i, h)])))) := own_grown HNY.out G2 (fun k hk e => by cases e; exact row_not HNY.out E1'.out (by decide) hk)
     have HKZ : Hid (z.ownsRow base 2 1 nk (op.length + 1) (ints (keptP (op ++ [(p, i, h)])))) := by
      show z.ownsRow _ _ _ _ _ _
      rw [keptP_app, ints_append]
      exact own_mono R2 (by omega)
     have BZ : Hid (Below base w z) := ((B1.out.mono hbase).grown GY.out (by omega) (fun k hk => by cases hk; exact hBb)).grown G2 (by omega) (fun k hk => by cases hk; exact hBb)
     obtain ⟨l0, l1, l2, m0, m1, m2⟩ := do_cells3 E2'.out
     have hBz : B < z.heap.size := by have := G2.size; omega
     have hbz : base ≤ z.heap.size := by omega
     clear G2 E2 R2
     go_wp2_with fail
     refine wp_region_late (S := fun w' => w'.cell? ⟨B, 2, none⟩ = some (.int .i64 h)) (late := fun j => j == 10) (by kernel_rfl) l2 (fun hHeld => ?_)
     refine wpAnyG_take (i := 0) (oi := ?oiu0) (v := .pointer (some ⟨B, 0, none⟩)) ?hiu0 (by kernel_rfl) (by kernel_rfl) (by kernel_rfl) (by kernel_rfl) ?hqu0 ?hyu0 hHeld ?hru0
     case hiu0 =>
      simp only [gA, gB, gC]
      rfl
     case hqu0 => exact fun _ _ _ h => h
     case hyu0 => exact Or.inl ⟨by kernel_rfl, fun w hSw => by go_simp⟩
     try simp only [Act.put, gD, gE, gF]
     refine wpAnyG_take (i := 1) (oi := ?oiu1) (v := .int .i64 c) ?hiu1 (by kernel_rfl) (by kernel_rfl) (by kernel_rfl) (by kernel_rfl) ?hqu1 ?hyu1 hHeld ?hru1
     case hiu1 =>
      simp only [gA, gB, gC]
      rfl
     case hqu1 => exact fun _ _ _ h => h
     case hyu1 => exact Or.inl ⟨by kernel_rfl, fun w hSw => by go_simp⟩
     try simp only [Act.put, gD, gE, gF]
     refine wpAnyG_take (i := 3) (oi := ?oiu3) (v := .pointer (some ⟨B, 0, none⟩)) ?hiu3 (by kernel_rfl) (by kernel_rfl) (by kernel_rfl) (by kernel_rfl) ?hqu3 ?hyu3 hHeld ?hru3
     case hiu3 =>
      simp only [gA, gB, gC]
      rfl
     case hqu3 => exact fun _ _ _ h => h
     case hyu3 => exact Or.inl ⟨by kernel_rfl, fun w hSw => by go_simp⟩
     try simp only [Act.put, gD, gE, gF]
     refine wpAnyG_take (i := 4) (oi := ?oiu4) (v := .pointer (some ⟨B, 0, none⟩)) ?hiu4 (by kernel_rfl) (by kernel_rfl) (by kernel_rfl) (by kernel_rfl) ?hqu4 ?hyu4 hHeld ?hru4
     case hiu4 =>
      simp only [gA, gB, gC]
      rfl
     case hqu4 => exact fun _ _ _ h => h
     case hyu4 => exact Or.inl ⟨by kernel_rfl, fun w hSw => by go_simp⟩
     try simp only [Act.put, gD, gE, gF]
     refine wpAnyG_take (i := 5) (oi := ?oiu5) (v := .pointer (some ⟨B, 2, none⟩)) ?hiu5 (by kernel_rfl) (by kernel_rfl) (by kernel_rfl) (by kernel_rfl) ?hqu5 ?hyu5 hHeld ?hru5
     case hiu5 =>
      simp only [gA, gB, gC]
      rfl
     case hqu5 => exact fun _ _ _ h => h
     case hyu5 => exact Or.inl ⟨by kernel_rfl, fun w hSw => by go_simp⟩
     try simp only [Act.put, gD, gE, gF]
     refine wpAnyG_take (i := 6) (oi := ?oiu6) (v := .int .i64 h) ?hiu6 (by kernel_rfl) (by kernel_rfl) (by kernel_rfl) (by kernel_rfl) ?hqu6 ?hyu6 hHeld ?hru6
     case hiu6 =>
      simp only [gA, gB, gC]
      rfl
     case hqu6 => exact fun _ _ _ h => h
     case hyu6 => exact Or.inl ⟨by kernel_rfl, fun w hSw => by go_simp⟩
     try simp only [Act.put, gD, gE, gF]
     refine wpAnyG_ready (rs := [2]) (by kernel_rfl) (by simp) ?_
     refine (AllReadyG.cons (o := ?oou2) ?hou2 (fun K hK => ?hku2) AllReadyG.nil)
     case hou2 =>
      simp only [gA, gB, gC]
      rfl
     case hku2 =>
      go_simp
      go_at_call 71
      refine (specEnter c _).mono ?_
      rintro e w5 ⟨a5, rfl, o5, b5⟩
      have B5 : Hid (Below z.heap.size z w5) := Below.trans (by go_grown) b5
      clear b5
      try go_wp2_with fail
      refine hK.out _ _ (Or.inr ((B5.out.cell hBz).trans l2)) (fun hHeld => ?_)
      replace hHeld := hHeld.resolve_left (by decide)
      clear hK K
      try simp only [Act.put, gD, gE, gF]
      refine wpAnyG_ready (rs := [7]) (by kernel_rfl) (by simp) ?_
      refine (AllReadyG.cons (o := ?oou7) ?hou7 (fun K hK => ?hku7) AllReadyG.nil)
      case hou7 =>
       simp only [gA, gB, gC]
       rfl
      case hku7 =>
       go_simp
       go_at_call 70
       refine (l6Image (enterAns c) h _ _ (enter_smalls hc) HSH.out (reads_own o5)).mono ?_
       rintro e w6 ⟨rfl, b6⟩
       have B6 : Hid (Below z.heap.size z w6) := B5.out.trans (b6.mono B5.out.size)
       clear b6
       try go_wp2_with fail
       refine hK.out _ _ (Or.inr ((B6.out.cell hBz).trans l2)) (fun hHeld => ?_)
       replace hHeld := hHeld.resolve_left (by decide)
       clear hK K
       try simp only [Act.put, gD, gE, gF]
       refine wpAnyG_ready (rs := [8]) (by kernel_rfl) (by simp) ?_
       refine (AllReadyG.cons (o := ?oou8) ?hou8 (fun K hK => ?hku8) AllReadyG.nil)
       case hou8 =>
        simp only [gA, gB, gC]
        rfl
       case hku8 =>
        go_simp
        try go_wp2_with fail
        refine hK.out _ _ (Or.inr hHeld) (fun hHeld => ?_)
        replace hHeld := hHeld.resolve_left (by decide)
        clear hK K
        try simp only [Act.put, gD, gE, gF]
        refine wpAnyG_ready (rs := [9]) (by kernel_rfl) (by simp) ?_
        refine (AllReadyG.cons (o := ?oou9) ?hou9 (fun K hK => ?hku9) AllReadyG.nil)
        case hou9 =>
         simp only [gA, gB, gC]
         rfl
        case hku9 =>
         go_simp
         try go_wp2_with fail
         refine hK.out _ _ (Or.inr hHeld) (fun hHeld => ?_)
         replace hHeld := hHeld.resolve_left (by decide)
         clear hK K
         try simp only [Act.put, gD, gE, gF]
         refine wpAnyG_ready (rs := [10]) (by kernel_rfl) (by simp) ?_
         refine (AllReadyG.cons (o := ?oou10) ?hou10 (fun K hK => ?hku10) AllReadyG.nil)
         case hou10 =>
          simp only [gA, gB, gC]
          rfl
         case hku10 =>
          obtain ⟨l60, l61, l62, m60, m61, m62⟩ := do_cells3 ((B6.out.block B hBz).trans E2'.out)
          go_simp
          try go_wp2_with fail
          refine hK.out _ _ (Or.inl rfl) (fun _ => ?_)
          clear hK K
          try simp only [Act.put, gD, gE, gF]
          refine wpAnyG_done (by kernel_rfl) ?_ _
          go_wp2
          go_end0
          refine ⟨⟨_, rfl⟩, ⟨hBb, nv, nk, ?_, ?_, ?_⟩, ?_⟩
          · have := heap_setCell_same w6 B 2 _ _ (.int .i64 (img (enterAns c) h)) ((B6.out.block B hBz).trans E2'.out)
            rw [HXX.out]
            exact this
          · rw [HAA.out, List.length_append]
            exact ownsRow_setCell_other (own_kept HNZ.out B6.out) (fun e => row_not (own_kept HNZ.out B6.out) ((B6.out.block B hBz).trans E2'.out) (by decide) e) _
          · rw [HAA.out, List.length_append]
            exact ownsRow_setCell_other (own_kept HKZ.out B6.out) (fun e => row_not (own_kept HKZ.out B6.out) ((B6.out.block B hBz).trans E2'.out) (by decide) e) _
          · exact Below.setCell (BZ.out.trans (B6.out.mono hbz)) hBb _
 by_cases h9 : t.k = 9
 · have hop9 := hne h9
   rw [h9] at k0
   rcases List.eq_nil_or_concat op with hcc | ⟨op', t', hcc⟩
   · exact absurd hcc hop9
   rw [List.concat_eq_append] at hcc
   have HAA : Hid (A = op') := by
    show A = _
    rw [← HA.out]; unfold opS; rw [if_neg h8, if_pos h9]; simp [hcc]
   have HXX : Hid (X = lor (img leaveL h) (img keepL t'.2.2)) := by
    show X = _
    rw [← HX.out]; unfold hS lastK; rw [if_neg h8, if_pos h9]; simp [hcc]
   have HT : Hid _ := HOP.out t' (by rw [hcc]; simp)
   subst hcc
   clear HA HX hop9 hne h8 h9
   obtain ⟨oa, om, oc, rfl⟩ := hovs
   obtain ⟨ka, km, kc, rfl⟩ := hkvs
   have hlen : (op' ++ [t']).length = op'.length + 1 := by simp
   rw [hlen] at HOV HKV hl100
   rw [flatP_app, ints_append] at HOV
   rw [keptP_app, ints_append] at HKV
   obtain ⟨go, co, hfo, _, _⟩ := World.ownsRow.form HOV.out (by omega)
   obtain ⟨gk, ck, hfk, _, _⟩ := World.ownsRow.form HKV.out (by omega)
   cases hfo
   cases hfk
   have HOVo : Hid (W1.ownsRow base 56 2 (.slice (some ⟨go, 0, none⟩) (op'.length + 1) oc) (op'.length + 1) (ints (flatP op') ++ ints [(t'.1 : Int), (t'.2.1 : Int)])) := HOV.out
   have HKVo : Hid (W1.ownsRow base 2 1 (.slice (some ⟨gk, 0, none⟩) (op'.length + 1) kc) (op'.length + 1) (ints (keptP op') ++ ints [t'.2.2])) := HKV.out
   clear HOV HKV
   have hkc := World.ownsRow.cellAt HKVo.out op'.length (by omega)
   have e9 : (ints (keptP op') ++ ints [t'.2.2])[op'.length]? = some (.int .i64 t'.2.2) := by
    rw [List.getElem?_append_right (by rw [ints_length, keptP_len]; omega), ints_length, keptP_len]; simp [ints]
   have hkc : W1.cell? ⟨gk, op'.length, none⟩ = some (.int .i64 t'.2.2) := hkc.trans e9
   clear e9
   obtain ⟨tp, ti, tk⟩ := t'
   simp only at hkc HXX HT
   obtain ⟨_, _, _, hts⟩ := HT.out
   have hzk := World.block_lt_of_cell? W1 _ hkc
   generalize hnn : op'.length = n at *
   have HLE : Hid (op'.length = n) := hnn
   clear hnn
   have hw1 : IntKind.i64.wrap ((n : Int) + 1 - 1) = (n : Int) := by rw [show (n : Int) + 1 - 1 = n by omega]; exact IntWalk.i64_in _ (by omega)
   have hw3 : IntKind.i64.wrap (n : Int) = (n : Int) := IntWalk.i64_in _ (by omega)
   have hn1 : (n : Int) < (n : Int) + 1 := by omega
   go_wp2_with fail
   refine wp_region_late (S := fun w' => w'.cell? ⟨B, 2, none⟩ = some (.int .i64 h) ∧ w'.cell? ⟨B, 1, none⟩ = some (.slice (some ⟨gk, 0, none⟩) (n + 1) kc) ∧ w'.cell? ⟨gk, n, none⟩ = some (.int .i64 tk)) (late := fun j => j == 19) (by kernel_rfl) ⟨d2, d1, hkc⟩ (fun hHeld => ?_)
   refine wpAnyG_take (i := 0) (oi := ?oiv0) (v := .pointer (some ⟨B, 0, none⟩)) ?hiv0 (by kernel_rfl) (by kernel_rfl) (by kernel_rfl) (by kernel_rfl) ?hqv0 ?hyv0 hHeld ?hrv0
   case hiv0 =>
    simp only [gA, gB, gC]
    rfl
   case hqv0 => exact fun _ _ _ h => h
   case hyv0 => exact Or.inl ⟨by kernel_rfl, fun w hSw => by go_simp⟩
   try simp only [Act.put, gD, gE, gF]
   refine wpAnyG_take (i := 2) (oi := ?oiv2) (v := .pointer (some ⟨B, 0, none⟩)) ?hiv2 (by kernel_rfl) (by kernel_rfl) (by kernel_rfl) (by kernel_rfl) ?hqv2 ?hyv2 hHeld ?hrv2
   case hiv2 =>
    simp only [gA, gB, gC]
    rfl
   case hqv2 => exact fun _ _ _ h => h
   case hyv2 => exact Or.inl ⟨by kernel_rfl, fun w hSw => by go_simp⟩
   try simp only [Act.put, gD, gE, gF]
   refine wpAnyG_take (i := 3) (oi := ?oiv3) (v := .pointer (some ⟨B, 0, none⟩)) ?hiv3 (by kernel_rfl) (by kernel_rfl) (by kernel_rfl) (by kernel_rfl) ?hqv3 ?hyv3 hHeld ?hrv3
   case hiv3 =>
    simp only [gA, gB, gC]
    rfl
   case hqv3 => exact fun _ _ _ h => h
   case hyv3 => exact Or.inl ⟨by kernel_rfl, fun w hSw => by go_simp⟩
   try simp only [Act.put, gD, gE, gF]
   refine wpAnyG_take (i := 4) (oi := ?oiv4) (v := .pointer (some ⟨B, 2, none⟩)) ?hiv4 (by kernel_rfl) (by kernel_rfl) (by kernel_rfl) (by kernel_rfl) ?hqv4 ?hyv4 hHeld ?hrv4
   case hiv4 =>
    simp only [gA, gB, gC]
    rfl
   case hqv4 => exact fun _ _ _ h => h
   case hyv4 => exact Or.inl ⟨by kernel_rfl, fun w hSw => by go_simp⟩
   try simp only [Act.put, gD, gE, gF]
   refine wpAnyG_take (i := 5) (oi := ?oiv5) (v := .int .i64 h) ?hiv5 (by kernel_rfl) (by kernel_rfl) (by kernel_rfl) (by kernel_rfl) ?hqv5 ?hyv5 hHeld ?hrv5
   case hiv5 =>
    simp only [gA, gB, gC]
    rfl
   case hqv5 => exact fun _ _ _ h => h
   case hyv5 => exact Or.inl ⟨by kernel_rfl, fun w hSw => by obtain ⟨s1, s2, s3⟩ := hSw; go_simp⟩
   try simp only [Act.put, gD, gE, gF]
   refine wpAnyG_take (i := 8) (oi := ?oiv8) (v := .pointer (some ⟨B, 0, none⟩)) ?hiv8 (by kernel_rfl) (by kernel_rfl) (by kernel_rfl) (by kernel_rfl) ?hqv8 ?hyv8 hHeld ?hrv8
   case hiv8 =>
    simp only [gA, gB, gC]
    rfl
   case hqv8 => exact fun _ _ _ h => h
   case hyv8 => exact Or.inl ⟨by kernel_rfl, fun w hSw => by go_simp⟩
   try simp only [Act.put, gD, gE, gF]
   refine wpAnyG_take (i := 9) (oi := ?oiv9) (v := .pointer (some ⟨B, 0, none⟩)) ?hiv9 (by kernel_rfl) (by kernel_rfl) (by kernel_rfl) (by kernel_rfl) ?hqv9 ?hyv9 hHeld ?hrv9
   case hiv9 =>
    simp only [gA, gB, gC]
    rfl
   case hqv9 => exact fun _ _ _ h => h
   case hyv9 => exact Or.inl ⟨by kernel_rfl, fun w hSw => by go_simp⟩
   try simp only [Act.put, gD, gE, gF]
   refine wpAnyG_take (i := 10) (oi := ?oiv10) (v := .pointer (some ⟨B, 1, none⟩)) ?hiv10 (by kernel_rfl) (by kernel_rfl) (by kernel_rfl) (by kernel_rfl) ?hqv10 ?hyv10 hHeld ?hrv10
   case hiv10 =>
    simp only [gA, gB, gC]
    rfl
   case hqv10 => exact fun _ _ _ h => h
   case hyv10 => exact Or.inl ⟨by kernel_rfl, fun w hSw => by go_simp⟩
   try simp only [Act.put, gD, gE, gF]
   refine wpAnyG_take (i := 11) (oi := ?oiv11) (v := .slice (some ⟨gk, 0, none⟩) (n + 1) kc) ?hiv11 (by kernel_rfl) (by kernel_rfl) (by kernel_rfl) (by kernel_rfl) ?hqv11 ?hyv11 hHeld ?hrv11
   case hiv11 =>
    simp only [gA, gB, gC]
    rfl
   case hqv11 => exact fun _ _ _ h => h
   case hyv11 => exact Or.inl ⟨by kernel_rfl, fun w hSw => by obtain ⟨s1, s2, s3⟩ := hSw; go_simp⟩
   try simp only [Act.put, gD, gE, gF]
   refine wpAnyG_take (i := 12) (oi := ?oiv12) (v := .int .i64 (n : Int)) ?hiv12 (by kernel_rfl) (by kernel_rfl) (by kernel_rfl) (by kernel_rfl) ?hqv12 ?hyv12 hHeld ?hrv12
   case hiv12 =>
    simp only [gA, gB, gC]
    rfl
   case hqv12 => exact fun _ _ _ h => h
   case hyv12 => exact Or.inl ⟨by kernel_rfl, fun w hSw => by go_simp⟩
   try simp only [Act.put, gD, gE, gF]
   refine wpAnyG_take (i := 13) (oi := ?oiv13) (v := .pointer (some ⟨gk, n, none⟩)) ?hiv13 (by kernel_rfl) (by kernel_rfl) (by kernel_rfl) (by kernel_rfl) ?hqv13 ?hyv13 hHeld ?hrv13
   case hiv13 =>
    simp only [gA, gB, gC]
    rfl
   case hqv13 => exact fun _ _ _ h => h
   case hyv13 => exact Or.inl ⟨by kernel_rfl, fun w hSw => by go_simp⟩
   try simp only [Act.put, gD, gE, gF]
   refine wpAnyG_take (i := 14) (oi := ?oiv14) (v := .int .i64 tk) ?hiv14 (by kernel_rfl) (by kernel_rfl) (by kernel_rfl) (by kernel_rfl) ?hqv14 ?hyv14 hHeld ?hrv14
   case hiv14 =>
    simp only [gA, gB, gC]
    rfl
   case hqv14 => exact fun _ _ _ h => h
   case hyv14 => exact Or.inl ⟨by kernel_rfl, fun w hSw => by obtain ⟨s1, s2, s3⟩ := hSw; go_simp⟩
   try simp only [Act.put, gD, gE, gF]
   refine wpAnyG_ready (rs := [1]) (by kernel_rfl) (by simp) ?_
   refine (AllReadyG.cons (o := ?oov1) ?hov1 (fun K hK => ?hkv1) AllReadyG.nil)
   case hov1 =>
    simp only [gA, gB, gC]
    rfl
   case hkv1 =>
    go_simp
    go_at_call 131
    refine (specLeave _).mono ?_
    rintro e w3 ⟨a3, rfl, o3, b3⟩
    have B3 : Hid (Below W1.heap.size W1 w3) := Below.trans (by go_grown) b3
    clear b3
    try go_wp2_with fail
    refine hK.out _ _ (Or.inr ⟨(B3.out.cell hB1).trans d2, (B3.out.cell hB1).trans d1, (B3.out.cell hzk).trans hkc⟩) (fun hHeld => ?_)
    replace hHeld := hHeld.resolve_left (by decide)
    clear hK K
    try simp only [Act.put, gD, gE, gF]
    refine wpAnyG_ready (rs := [6]) (by kernel_rfl) (by simp) ?_
    refine (AllReadyG.cons (o := ?oov6) ?hov6 (fun K hK => ?hkv6) AllReadyG.nil)
    case hov6 =>
     simp only [gA, gB, gC]
     rfl
    case hkv6 =>
     go_simp
     go_at_call 70
     refine (l6Image leaveL h _ _ leave_smalls HSH.out (reads_own o3)).mono ?_
     rintro e w4 ⟨rfl, b4⟩
     have B4 : Hid (Below W1.heap.size W1 w4) := B3.out.trans (b4.mono B3.out.size)
     clear b4
     try go_wp2_with fail
     refine hK.out _ _ (Or.inr ⟨(B4.out.cell hB1).trans d2, (B4.out.cell hB1).trans d1, (B4.out.cell hzk).trans hkc⟩) (fun hHeld => ?_)
     replace hHeld := hHeld.resolve_left (by decide)
     clear hK K
     try simp only [Act.put, gD, gE, gF]
     refine wpAnyG_ready (rs := [7]) (by kernel_rfl) (by simp) ?_
     refine (AllReadyG.cons (o := ?oov7) ?hov7 (fun K hK => ?hkv7) AllReadyG.nil)
     case hov7 =>
      simp only [gA, gB, gC]
      rfl
     case hkv7 =>
      go_simp
      go_at_call 132
      refine (specKeep _).mono ?_
      rintro e w5 ⟨a5, rfl, o5, b5⟩
      have B5 : Hid (Below W1.heap.size W1 w5) := B4.out.trans (b5.mono B4.out.size)
      clear b5
      try go_wp2_with fail
      refine hK.out _ _ (Or.inr ⟨(B5.out.cell hB1).trans d2, (B5.out.cell hB1).trans d1, (B5.out.cell hzk).trans hkc⟩) (fun hHeld => ?_)
      replace hHeld := hHeld.resolve_left (by decide)
      clear hK K
      try simp only [Act.put, gD, gE, gF]
      refine wpAnyG_ready (rs := [15]) (by kernel_rfl) (by simp) ?_
      refine (AllReadyG.cons (o := ?oov15) ?hov15 (fun K hK => ?hkv15) AllReadyG.nil)
      case hov15 =>
       simp only [gA, gB, gC]
       rfl
      case hkv15 =>
       go_simp
       go_at_call 70
       refine (l6Image keepL tk _ _ keep_smalls hts (reads_own o5)).mono ?_
       rintro e w6 ⟨rfl, b6⟩
       have B6 : Hid (Below W1.heap.size W1 w6) := B5.out.trans (b6.mono B5.out.size)
       clear b6
       try go_wp2_with fail
       refine hK.out _ _ (Or.inr ⟨(B6.out.cell hB1).trans d2, (B6.out.cell hB1).trans d1, (B6.out.cell hzk).trans hkc⟩) (fun hHeld => ?_)
       replace hHeld := hHeld.resolve_left (by decide)
       clear hK K
       try simp only [Act.put, gD, gE, gF]
       refine wpAnyG_take (i := 16) (oi := ?oiv16) (v := .int .i64 (lor (img leaveL h) (img keepL tk))) ?hiv16 (by kernel_rfl) (by kernel_rfl) (by kernel_rfl) (by kernel_rfl) ?hqv16 ?hyv16 hHeld ?hrv16
       case hiv16 =>
        simp only [gA, gB, gC]
        rfl
       case hqv16 => exact fun _ _ _ h => h
       case hyv16 => exact Or.inl ⟨by kernel_rfl, fun w hSw => by (show _ = _); go_simp; rfl⟩
       try simp only [Act.put, gD, gE, gF]
       refine wpAnyG_ready (rs := [17]) (by kernel_rfl) (by simp) ?_
       refine (AllReadyG.cons (o := ?oov17) ?hov17 (fun K hK => ?hkv17) AllReadyG.nil)
       case hov17 =>
        simp only [gA, gB, gC]
        rfl
       case hkv17 =>
        go_simp
        try go_wp2_with fail
        refine hK.out _ _ (Or.inr hHeld) (fun hHeld => ?_)
        replace hHeld := hHeld.resolve_left (by decide)
        clear hK K
        try simp only [Act.put, gD, gE, gF]
        refine wpAnyG_ready (rs := [18]) (by kernel_rfl) (by simp) ?_
        refine (AllReadyG.cons (o := ?oov18) ?hov18 (fun K hK => ?hkv18) AllReadyG.nil)
        case hov18 =>
         simp only [gA, gB, gC]
         rfl
        case hkv18 =>
         go_simp
         try go_wp2_with fail
         refine hK.out _ _ (Or.inr hHeld) (fun hHeld => ?_)
         replace hHeld := hHeld.resolve_left (by decide)
         clear hK K
         try simp only [Act.put, gD, gE, gF]
         refine wpAnyG_ready (rs := [19]) (by kernel_rfl) (by simp) ?_
         refine (AllReadyG.cons (o := ?oov19) ?hov19 (fun K hK => ?hkv19) AllReadyG.nil)
         case hov19 =>
          simp only [gA, gB, gC]
          rfl
         case hkv19 =>
          obtain ⟨l60, l61, l62, m60, m61, m62⟩ := do_cells3 ((B6.out.block B hB1).trans HB1.out)
          go_simp
          try go_wp2_with fail
          refine hK.out _ _ (Or.inl rfl) (fun _ => ?_)
          clear hK K
          try simp only [Act.put, gD, gE, gF]
          refine wpAnyG_done (by kernel_rfl) ?_ _
          have EY : Hid ((w6.setCell ⟨B, 2, none⟩ (.int .i64 (lor (img leaveL h) (img keepL tk)))).heap[B]? = some (.cells #[.slice (some ⟨go, 0, none⟩) (n + 1) oc, .slice (some ⟨gk, 0, none⟩) (n + 1) kc, .int .i64 (lor (img leaveL h) (img keepL tk))] 114 (0, 0))) := heap_setCell_same w6 B 2 _ _ (.int .i64 (lor (img leaveL h) (img keepL tk))) ((B6.out.block B hB1).trans HB1.out)
          have HOY : Hid ((w6.setCell ⟨B, 2, none⟩ (.int .i64 (lor (img leaveL h) (img keepL tk)))).ownsRow base 56 2 (.slice (some ⟨go, 0, none⟩) (n + 1) oc) (n + 1) (ints (flatP op') ++ ints [(tp : Int), (ti : Int)])) := ownsRow_setCell_other (own_kept HOVo.out B6.out) (fun e => row_not (own_kept HOVo.out B6.out) ((B6.out.block B hB1).trans HB1.out) (by decide) e) _
          have HKY : Hid ((w6.setCell ⟨B, 2, none⟩ (.int .i64 (lor (img leaveL h) (img keepL tk)))).ownsRow base 2 1 (.slice (some ⟨gk, 0, none⟩) (n + 1) kc) (n + 1) (ints (keptP op') ++ ints [tk])) := ownsRow_setCell_other (own_kept HKVo.out B6.out) (fun e => row_not (own_kept HKVo.out B6.out) ((B6.out.block B hB1).trans HB1.out) (by decide) e) _
          have hb9 : base ≤ W1.heap.size := by omega
          have BY : Hid (Below base w (w6.setCell ⟨B, 2, none⟩ (.int .i64 (lor (img leaveL h) (img keepL tk))))) := Below.setCell ((B1.out.mono hbase).trans (B6.out.mono hb9)) hBb _
          generalize w6.setCell ⟨B, 2, none⟩ (.int .i64 (lor (img leaveL h) (img keepL tk))) = y at *
          generalize lor (img leaveL h) (img keepL tk) = xx at *
          obtain ⟨l0, l1, l2, m0, m1, m2⟩ := do_cells3 EY.out
          have hoc : n + 1 ≤ oc := own_capW HOY.out
          have hkc2 : n + 1 ≤ kc := own_capW HKY.out
          have hn9 : n ≤ oc := by omega
          have hn8 : n ≤ kc := by omega
          go_wp2_with fail
          go_end0
          refine ⟨⟨_, rfl⟩, ⟨hBb, .slice (some ⟨go, 0, none⟩) n oc, .slice (some ⟨gk, 0, none⟩) n kc, ?_, ?_, ?_⟩, ?_⟩
          · have h1 := heap_setCell_same y B 0 _ _ (.slice (some ⟨go, 0, none⟩) n oc) EY.out
            have h2 := heap_setCell_same _ B 1 _ _ (.slice (some ⟨gk, 0, none⟩) n kc) h1
            rw [HXX.out]
            exact h2
          · rw [HAA.out, HLE.out]
            have h1 := own_short HOY.out (by rw [ints_length, flatP_len, HLE.out]; omega)
            exact ownsRow_setCell_other (ownsRow_setCell_other h1 (fun e => row_not h1 EY.out (by decide) e) _) (fun e => row_not h1 EY.out (by decide) e) _
          · rw [HAA.out, HLE.out]
            have h1 := own_short HKY.out (by rw [ints_length, keptP_len, HLE.out]; omega)
            exact ownsRow_setCell_other (ownsRow_setCell_other h1 (fun e => row_not h1 EY.out (by decide) e) _) (fun e => row_not h1 EY.out (by decide) e) _
          · exact Below.setCell (Below.setCell BY.out hBb _) hBb _
 have HAA : Hid (A = op) := by
  show A = _
  rw [← HA.out]; unfold opS; rw [if_neg h8, if_neg h9]
 have HXX : Hid (X = img (flowL c t.k t.x t.y) h) := by
  show X = _
  rw [← HX.out]; unfold hS; rw [if_neg h8, if_neg h9]
 have hx8 : (t.k == 8) = false := by simpa using h8
 have hx9 : (t.k == 9) = false := by simpa using h9
 clear HA HX
 have HOVo : Hid (W1.ownsRow base 56 2 ov op.length (ints (flatP op))) := HOV.out
 have HKVo : Hid (W1.ownsRow base 2 1 kv op.length (ints (keptP op))) := HKV.out
 have hW0l : W0.heap.size < W1.heap.size := by have := hW1s.out; omega
 have hb9 : base ≤ W1.heap.size := by omega
 have hflo := l7Flow c t.k t.x t.y hc hso
 have hfsm := flowL_smalls (c := c) hso
 go_wp2_with fail
 refine wp_region_late (S := fun w' => w'.cell? ⟨B, 2, none⟩ = some (.int .i64 h) ∧ w'.cell? ⟨W0.heap.size, 0, none⟩ = some (.int .i64 t.k) ∧ w'.cell? ⟨W0.heap.size, 1, none⟩ = some (.int .i64 t.x) ∧ w'.cell? ⟨W0.heap.size, 2, none⟩ = some (.int .i64 t.y)) (late := fun j => j == 11) (by kernel_rfl) ⟨d2, k0, k1, k2⟩ (fun hHeld => ?_)
 refine wpAnyG_take (i := 0) (oi := ?oix0) (v := .pointer (some ⟨B, 0, none⟩)) ?hix0 (by kernel_rfl) (by kernel_rfl) (by kernel_rfl) (by kernel_rfl) ?hqx0 ?hyx0 hHeld ?hrx0
 case hix0 =>
  simp only [gA, gB, gC]
  rfl
 case hqx0 => exact fun _ _ _ h => h
 case hyx0 => exact Or.inl ⟨by kernel_rfl, fun w hSw => by go_simp⟩
 try simp only [Act.put, gD, gE, gF]
 refine wpAnyG_take (i := 1) (oi := ?oix1) (v := .int .i64 c) ?hix1 (by kernel_rfl) (by kernel_rfl) (by kernel_rfl) (by kernel_rfl) ?hqx1 ?hyx1 hHeld ?hrx1
 case hix1 =>
  simp only [gA, gB, gC]
  rfl
 case hqx1 => exact fun _ _ _ h => h
 case hyx1 => exact Or.inl ⟨by kernel_rfl, fun w hSw => by go_simp⟩
 try simp only [Act.put, gD, gE, gF]
 refine wpAnyG_take (i := 2) (oi := ?oix2) (v := .agg #[.int .i64 t.k, .int .i64 t.x, .int .i64 t.y]) ?hix2 (by kernel_rfl) (by kernel_rfl) (by kernel_rfl) (by kernel_rfl) ?hqx2 ?hyx2 hHeld ?hrx2
 case hix2 =>
  simp only [gA, gB, gC]
  rfl
 case hqx2 => exact fun _ _ _ h => h
 case hyx2 => exact Or.inl ⟨by kernel_rfl, fun w hSw => by obtain ⟨s1, s2, s3, s4⟩ := hSw; go_simp⟩
 try simp only [Act.put, gD, gE, gF]
 refine wpAnyG_take (i := 4) (oi := ?oix4) (v := .pointer (some ⟨B, 0, none⟩)) ?hix4 (by kernel_rfl) (by kernel_rfl) (by kernel_rfl) (by kernel_rfl) ?hqx4 ?hyx4 hHeld ?hrx4
 case hix4 =>
  simp only [gA, gB, gC]
  rfl
 case hqx4 => exact fun _ _ _ h => h
 case hyx4 => exact Or.inl ⟨by kernel_rfl, fun w hSw => by go_simp⟩
 try simp only [Act.put, gD, gE, gF]
 refine wpAnyG_take (i := 5) (oi := ?oix5) (v := .pointer (some ⟨B, 0, none⟩)) ?hix5 (by kernel_rfl) (by kernel_rfl) (by kernel_rfl) (by kernel_rfl) ?hqx5 ?hyx5 hHeld ?hrx5
 case hix5 =>
  simp only [gA, gB, gC]
  rfl
 case hqx5 => exact fun _ _ _ h => h
 case hyx5 => exact Or.inl ⟨by kernel_rfl, fun w hSw => by go_simp⟩
 try simp only [Act.put, gD, gE, gF]
 refine wpAnyG_take (i := 6) (oi := ?oix6) (v := .pointer (some ⟨B, 2, none⟩)) ?hix6 (by kernel_rfl) (by kernel_rfl) (by kernel_rfl) (by kernel_rfl) ?hqx6 ?hyx6 hHeld ?hrx6
 case hix6 =>
  simp only [gA, gB, gC]
  rfl
 case hqx6 => exact fun _ _ _ h => h
 case hyx6 => exact Or.inl ⟨by kernel_rfl, fun w hSw => by go_simp⟩
 try simp only [Act.put, gD, gE, gF]
 refine wpAnyG_take (i := 7) (oi := ?oix7) (v := .int .i64 h) ?hix7 (by kernel_rfl) (by kernel_rfl) (by kernel_rfl) (by kernel_rfl) ?hqx7 ?hyx7 hHeld ?hrx7
 case hix7 =>
  simp only [gA, gB, gC]
  rfl
 case hqx7 => exact fun _ _ _ h => h
 case hyx7 => exact Or.inl ⟨by kernel_rfl, fun w hSw => by obtain ⟨s1, s2, s3, s4⟩ := hSw; go_simp⟩
 try simp only [Act.put, gD, gE, gF]
 refine wpAnyG_ready (rs := [3]) (by kernel_rfl) (by simp) ?_
 refine (AllReadyG.cons (o := ?oox3) ?hox3 (fun K hK => ?hkx3) AllReadyG.nil)
 case hox3 =>
  simp only [gA, gB, gC]
  rfl
 case hkx3 =>
  go_simp
  go_at_call 133
  refine (hflo _).mono ?_
  rintro e w3 ⟨g3, rfl, hg3, i3, b3⟩
  have B3 : Hid (Below W1.heap.size W1 w3) := Below.trans (by go_grown) b3
  clear b3
  try go_wp2_with fail
  refine hK.out _ _ (Or.inr ⟨(B3.out.cell hB1).trans d2, (B3.out.cell hW0l).trans k0, (B3.out.cell hW0l).trans k1, (B3.out.cell hW0l).trans k2⟩) (fun hHeld => ?_)
  replace hHeld := hHeld.resolve_left (by decide)
  clear hK K
  try simp only [Act.put, gD, gE, gF]
  refine wpAnyG_ready (rs := [8]) (by kernel_rfl) (by simp) ?_
  refine (AllReadyG.cons (o := ?oox8) ?hox8 (fun K hK => ?hkx8) AllReadyG.nil)
  case hox8 =>
   simp only [gA, gB, gC]
   rfl
  case hkx8 =>
   go_simp
   go_at_call 70
   refine (l6Image (flowL c t.k t.x t.y) h _ _ hfsm HSH.out (reads_own (IntAt.own i3 (base := 0) (Nat.zero_le _) hfsm.1))).mono ?_
   rintro e w4 ⟨rfl, b4⟩
   have B4 : Hid (Below W1.heap.size W1 w4) := B3.out.trans (b4.mono B3.out.size)
   clear b4
   try go_wp2_with fail
   refine hK.out _ _ (Or.inr ⟨(B4.out.cell hB1).trans d2, (B4.out.cell hW0l).trans k0, (B4.out.cell hW0l).trans k1, (B4.out.cell hW0l).trans k2⟩) (fun hHeld => ?_)
   replace hHeld := hHeld.resolve_left (by decide)
   clear hK K
   try simp only [Act.put, gD, gE, gF]
   refine wpAnyG_ready (rs := [9]) (by kernel_rfl) (by simp) ?_
   refine (AllReadyG.cons (o := ?oox9) ?hox9 (fun K hK => ?hkx9) AllReadyG.nil)
   case hox9 =>
    simp only [gA, gB, gC]
    rfl
   case hkx9 =>
    go_simp
    try go_wp2_with fail
    refine hK.out _ _ (Or.inr hHeld) (fun hHeld => ?_)
    replace hHeld := hHeld.resolve_left (by decide)
    clear hK K
    try simp only [Act.put, gD, gE, gF]
    refine wpAnyG_ready (rs := [10]) (by kernel_rfl) (by simp) ?_
    refine (AllReadyG.cons (o := ?oox10) ?hox10 (fun K hK => ?hkx10) AllReadyG.nil)
    case hox10 =>
     simp only [gA, gB, gC]
     rfl
    case hkx10 =>
     go_simp
     try go_wp2_with fail
     refine hK.out _ _ (Or.inr hHeld) (fun hHeld => ?_)
     replace hHeld := hHeld.resolve_left (by decide)
     clear hK K
     try simp only [Act.put, gD, gE, gF]
     refine wpAnyG_ready (rs := [11]) (by kernel_rfl) (by simp) ?_
     refine (AllReadyG.cons (o := ?oox11) ?hox11 (fun K hK => ?hkx11) AllReadyG.nil)
     case hox11 =>
      simp only [gA, gB, gC]
      rfl
     case hkx11 =>
      obtain ⟨l60, l61, l62, m60, m61, m62⟩ := do_cells3 ((B4.out.block B hB1).trans HB1.out)
      go_simp
      try go_wp2_with fail
      refine hK.out _ _ (Or.inl rfl) (fun _ => ?_)
      clear hK K
      try simp only [Act.put, gD, gE, gF]
      refine wpAnyG_done (by kernel_rfl) ?_ _
      go_wp2
      go_end0
      refine ⟨⟨_, rfl⟩, ⟨hBb, ov, kv, ?_, ?_, ?_⟩, ?_⟩
      · have := heap_setCell_same w4 B 2 _ _ (.int .i64 (img (flowL c t.k t.x t.y) h)) ((B4.out.block B hB1).trans HB1.out)
        rw [HXX.out]
        exact this
      · rw [HAA.out]
        exact ownsRow_setCell_other (own_kept HOVo.out B4.out) (fun e => row_not (own_kept HOVo.out B4.out) ((B4.out.block B hB1).trans HB1.out) (by decide) e) _
      · rw [HAA.out]
        exact ownsRow_setCell_other (own_kept HKVo.out B4.out) (fun e => row_not (own_kept HKVo.out B4.out) ((B4.out.block B hB1).trans HB1.out) (by decide) e) _
      · exact Below.setCell ((B1.out.mono hbase).trans (B4.out.mono hb9)) hBb _

end Go.Proofs.Ytnjbihfceckpfaa
