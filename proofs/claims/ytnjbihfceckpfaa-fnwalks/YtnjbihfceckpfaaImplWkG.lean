/-
 Chapter 12, the program's side: goTo.
-/
import Derived.Test.YtnjbihfceckpfaaG00Stmt
import Derived.Test.YtnjbihfceckpfaaImplWkN
import Derived.Test.YtnjbihfceckpfaaG10SpecFlow
namespace Go.Proofs.Ytnjbihfceckpfaa
open Go.RowKit
set_option linter.unusedVariables false
set_option linter.unusedSimpArgs false
set_option maxHeartbeats 4000000
set_option maxRecDepth 20000

theorem imageAns_img {rs : List Int} {s : Int} (hr : Smalls rs) (hs : Small s) : imageAns rs s = img rs s := by
 unfold imageAns
 rw [if_pos (by simp [relOk_iff.2 hr, small_in.2 hs])]

theorem go_cells2 {w : World} {b : Nat} {x0 x1 : Value} {T : TypeId} (h : w.heap[b]? = some (.cells #[x0, x1] T (0, 0))) : w.cell? ⟨b, 0, none⟩ = some x0 ∧ w.cell? ⟨b, 1, none⟩ = some x1 := by
 refine ⟨?_, ?_⟩ <;> simp [World.cell?, h]

/-- A row of another type stays. -/
theorem keepT_own {w w' : World} {B base : Nat} {e : TypeId} {sz n : Nat} {u : Value} {xs : List Value} (h : KeepT w w' B) (ho : w.ownsRow base e sz u n xs) (hB : ∀ k, u.ownBlock = some k → k ≠ B) (he : 168 ≠ e) {q : Nat} (hq : u.ownBlock = some q) : w'.heap[q]? = w.heap[q]? := by
 have hne := hB q hq
 rcases ho.2 with ⟨rfl, _⟩ | ⟨g, cap, cur, rfl, _, hg, _⟩
 · cases hq
 · cases hq
   rw [h _ _ _ _ hne he hg, hg]

theorem field_kept (a b x : Int) (w : World) : (Instr.field 168 (.agg #[.int .i64 a, .int .i64 b, .int .i64 x]) 1).run Try.prog w = .ok (.int .i64 x) w := by
 first | kernel_rfl | rfl | (simp [Instr.field, go_sem])

theorem flowAns_ok {c k x y : Int} (hc : c = 1 ∨ c = 2) (h : stmtOk k x y = true) : flowAns c k x y = flowL c k x y := by unfold flowAns; rw [if_pos ⟨hc, h⟩]

theorem implGoTo (ps : List (List Stm)) (c : Int) (s : WS) (base B k P' I' : Nat) (v : Value) (w : World) (hc : c = 1 ∨ c = 2) (hcan : CanP ps) (hk : k ≤ 100) (hs : OkW ps s k) (hv : ReadsP w v ps) (hW : WAt w base B v c s) (hbase : base ≤ w.heap.size)
 (hne : (stW ps s.p s.i).k = 9 → s.op ≠ []) :
 Calls Try.prog 92 #[.pointer (some ⟨B, 0, none⟩), .agg #[.int .i64 P', .int .i64 I']] w fun e w' => (∃ x, e = .returned x) ∧ WAt w' base B v c (doW c ps s P' I') ∧ Below base w w' := by
 have hlen := hs.len
 have hso := hs.ok hcan
 have hBb := hW.at_
 have hBlt := hW.lt
 obtain ⟨W, hWW⟩ : ∃ W, w.alloc (.cells #[.int .i64 (P' : Int), .int .i64 (I' : Int)] 56) = W := ⟨_, rfl⟩
 have bW : Below w.heap.size w W := by rw [← hWW]; go_grown
 have HN : Hid (W.heap[w.heap.size]? = some (.cells #[.int .i64 (P' : Int), .int .i64 (I' : Int)] 56 (0, 0))) := by show _ = _; rw [← hWW]; exact heap_alloc_new w _
 have hstm := implStmt ps c s base B k v W hs (readsP_below hv bW) (hW.below bW)
 have HDO : Hid (doW c ps s P' I' = ⟨P', I', opS (stW ps s.p s.i) s, hS c (stW ps s.p s.i) s⟩) := rfl
 obtain ⟨D, hD⟩ : ∃ D, doW c ps s P' I' = D := ⟨_, rfl⟩
 rw [hD] at HDO ⊢
 have HSH : Hid (Small s.h) := hs.h
 have HOP : Hid _ := hs.op
 have HWW : Hid (WAt W base B v c s) := hW.below bW
 have hzw : w.heap.size < W.heap.size := (Array.getElem?_eq_some_iff.1 HN.out).1
 have BW : Hid (Below w.heap.size w W) := bW
 clear hD bW hW hv
 generalize stW ps s.p s.i = t at *
 go_enter Try.func92, Try.ntmps92
 go_wp2_with fail
 go_at_call 122
 refine hstm.mono ?_
 rintro e w1 ⟨rfl, b1⟩
 obtain ⟨W1, hW1⟩ : ∃ W1, w1.alloc (.cells #[.int .i64 t.k, .int .i64 t.x, .int .i64 t.y] 92) = W1 := ⟨_, rfl⟩
 have bW1 : Below w1.heap.size w1 W1 := by rw [← hW1]; go_grown
 have HT : Hid (W1.heap[w1.heap.size]? = some (.cells #[.int .i64 t.k, .int .i64 t.x, .int .i64 t.y] 92 (0, 0))) := by show _ = _; rw [← hW1]; exact heap_alloc_new w1 _
 have B11 : Hid (Below W.heap.size W W1) := b1.trans (bW1.mono b1.size)
 have BW1 : Hid (Below w.heap.size w W1) := BW.out.trans (B11.out.mono BW.out.size)
 have HNP : Hid (W1.heap[w.heap.size]? = some (.cells #[.int .i64 (P' : Int), .int .i64 (I' : Int)] 56 (0, 0))) := (B11.out.block _ hzw).trans HN.out
 have HW1 : Hid (WAt W1 base B v c s) := HWW.out.below B11.out
 obtain ⟨k0, k1, k2⟩ := stmt_cells HT.out
 have z1 : w1.heap.size < W1.heap.size := (Array.getElem?_eq_some_iff.1 HT.out).1
 have z2 : w.heap.size < W1.heap.size := Nat.lt_of_lt_of_le hzw B11.out.size
 have hb1 : base ≤ W1.heap.size := by omega
 clear b1 bW1 hstm HN
 obtain ⟨_, cv, hblk, hown⟩ := id HW1.out
 obtain ⟨⟨d0, d1, d2, d3, d4, d5⟩, f0, f1, f2, f3, f4, f5⟩ := wk_cells hblk
 have zB : B < W1.heap.size := (Array.getElem?_eq_some_iff.1 hblk).1
 have HBK : Hid _ := hblk
 have HOW : Hid (W1.ownsRow base 168 3 cv s.op.length (ints (flat3 s.op))) := hown
 clear hblk hown
 by_cases h8 : t.k = 8
 · have HD8 : Hid (D = ⟨P', I', s.op ++ [(s.p, s.i, s.h)], img (enterAns c) s.h⟩) := by
    show D = _
    rw [HDO.out]; unfold opS hS; rw [if_pos h8, if_pos h8]
   rw [h8] at k0
   clear h8 hne
   have hpush := fun W' (hb : Below W1.heap.size W1 W') => implPush c s base B v W' (by omega) (by have := hb.size; omega) (HW1.out.below hb) s.p s.i s.h
   have hie := fun a W hr => implImage (enterAns c) s.h a W (by rw [(enter_smalls hc).1]; decide) hr
   rw [imageAns_img (enter_smalls hc) HSH.out] at hie
   go_wp2_with fail
   refine wp_region_held_drew (S := fun w' => (w'.cell? ⟨B, 3, none⟩ = some (.int .i64 (s.p : Int)) ∧ w'.cell? ⟨B, 4, none⟩ = some (.int .i64 (s.i : Int))) ∧ w'.cell? ⟨B, 5, none⟩ = some (.int .i64 s.h)) (by kernel_rfl) ⟨⟨d3, d4⟩, d5⟩ (fun hHeld => ?_)
   refine wpAnyH_take (i := 0) (oi := ?oim0) (v := .pointer (some ⟨B, 0, none⟩)) ?him0 (by kernel_rfl) (by kernel_rfl) (by kernel_rfl) ?hqm0 ?hym0 hHeld ?hrm0
   case him0 =>
    simp only [gA, gB, gC]
    rfl
   case hqm0 => exact fun _ _ _ h => h
   case hym0 => exact Or.inl ⟨by kernel_rfl, fun w hSw => by go_simp⟩
   try simp only [Act.put, gD, gE, gF]
   refine wpAnyH_take (i := 1) (oi := ?oim1) (v := .pointer (some ⟨B, 0, none⟩)) ?him1 (by kernel_rfl) (by kernel_rfl) (by kernel_rfl) ?hqm1 ?hym1 hHeld ?hrm1
   case him1 =>
    simp only [gA, gB, gC]
    rfl
   case hqm1 => exact fun _ _ _ h => h
   case hym1 => exact Or.inl ⟨by kernel_rfl, fun w hSw => by go_simp⟩
   try simp only [Act.put, gD, gE, gF]
   refine wpAnyH_take (i := 2) (oi := ?oim2) (v := .pointer (some ⟨B, 0, none⟩)) ?him2 (by kernel_rfl) (by kernel_rfl) (by kernel_rfl) ?hqm2 ?hym2 hHeld ?hrm2
   case him2 =>
    simp only [gA, gB, gC]
    rfl
   case hqm2 => exact fun _ _ _ h => h
   case hym2 => exact Or.inl ⟨by kernel_rfl, fun w hSw => by go_simp⟩
   try simp only [Act.put, gD, gE, gF]
   refine wpAnyH_take (i := 3) (oi := ?oim3) (v := .pointer (some ⟨B, 0, none⟩)) ?him3 (by kernel_rfl) (by kernel_rfl) (by kernel_rfl) ?hqm3 ?hym3 hHeld ?hrm3
   case him3 =>
    simp only [gA, gB, gC]
    rfl
   case hqm3 => exact fun _ _ _ h => h
   case hym3 => exact Or.inl ⟨by kernel_rfl, fun w hSw => by go_simp⟩
   try simp only [Act.put, gD, gE, gF]
   refine wpAnyH_take (i := 4) (oi := ?oim4) (v := .pointer (some ⟨B, 0, none⟩)) ?him4 (by kernel_rfl) (by kernel_rfl) (by kernel_rfl) ?hqm4 ?hym4 hHeld ?hrm4
   case him4 =>
    simp only [gA, gB, gC]
    rfl
   case hqm4 => exact fun _ _ _ h => h
   case hym4 => exact Or.inl ⟨by kernel_rfl, fun w hSw => by go_simp⟩
   try simp only [Act.put, gD, gE, gF]
   refine wpAnyH_take (i := 5) (oi := ?oim5) (v := .pointer (some ⟨B, 3, none⟩)) ?him5 (by kernel_rfl) (by kernel_rfl) (by kernel_rfl) ?hqm5 ?hym5 hHeld ?hrm5
   case him5 =>
    simp only [gA, gB, gC]
    rfl
   case hqm5 => exact fun _ _ _ h => h
   case hym5 => exact Or.inl ⟨by kernel_rfl, fun w hSw => by go_simp⟩
   try simp only [Act.put, gD, gE, gF]
   refine wpAnyH_take (i := 6) (oi := ?oim6) (v := .agg #[.int .i64 (s.p : Int), .int .i64 (s.i : Int)]) ?him6 (by kernel_rfl) (by kernel_rfl) (by kernel_rfl) ?hqm6 ?hym6 hHeld ?hrm6
   case him6 =>
    simp only [gA, gB, gC]
    rfl
   case hqm6 => exact fun _ _ _ h => h
   case hym6 => exact Or.inl ⟨by kernel_rfl, fun w hSw => by obtain ⟨⟨s1, s2⟩, s3⟩ := hSw; go_simp⟩
   try simp only [Act.put, gD, gE, gF]
   refine wpAnyH_take (i := 7) (oi := ?oim7) (v := .pointer (some ⟨B, 0, none⟩)) ?him7 (by kernel_rfl) (by kernel_rfl) (by kernel_rfl) ?hqm7 ?hym7 hHeld ?hrm7
   case him7 =>
    simp only [gA, gB, gC]
    rfl
   case hqm7 => exact fun _ _ _ h => h
   case hym7 => exact Or.inl ⟨by kernel_rfl, fun w hSw => by go_simp⟩
   try simp only [Act.put, gD, gE, gF]
   refine wpAnyH_take (i := 8) (oi := ?oim8) (v := .pointer (some ⟨B, 0, none⟩)) ?him8 (by kernel_rfl) (by kernel_rfl) (by kernel_rfl) ?hqm8 ?hym8 hHeld ?hrm8
   case him8 =>
    simp only [gA, gB, gC]
    rfl
   case hqm8 => exact fun _ _ _ h => h
   case hym8 => exact Or.inl ⟨by kernel_rfl, fun w hSw => by go_simp⟩
   try simp only [Act.put, gD, gE, gF]
   refine wpAnyH_take (i := 9) (oi := ?oim9) (v := .pointer (some ⟨B, 5, none⟩)) ?him9 (by kernel_rfl) (by kernel_rfl) (by kernel_rfl) ?hqm9 ?hym9 hHeld ?hrm9
   case him9 =>
    simp only [gA, gB, gC]
    rfl
   case hqm9 => exact fun _ _ _ h => h
   case hym9 => exact Or.inl ⟨by kernel_rfl, fun w hSw => by go_simp⟩
   try simp only [Act.put, gD, gE, gF]
   refine wpAnyH_take (i := 10) (oi := ?oim10) (v := .int .i64 s.h) ?him10 (by kernel_rfl) (by kernel_rfl) (by kernel_rfl) ?hqm10 ?hym10 hHeld ?hrm10
   case him10 =>
    simp only [gA, gB, gC]
    rfl
   case hqm10 => exact fun _ _ _ h => h
   case hym10 => exact Or.inl ⟨by kernel_rfl, fun w hSw => by obtain ⟨⟨s1, s2⟩, s3⟩ := hSw; go_simp⟩
   try simp only [Act.put, gD, gE, gF]
   refine wpAnyH_take (i := 11) (oi := ?oim11) (v := .agg #[.int .i64 (s.p : Int), .int .i64 (s.i : Int), .int .i64 s.h]) ?him11 (by kernel_rfl) (by kernel_rfl) (by kernel_rfl) ?hqm11 ?hym11 hHeld ?hrm11
   case him11 =>
    simp only [gA, gB, gC]
    rfl
   case hqm11 => exact fun _ _ _ h => h
   case hym11 => exact Or.inl ⟨by kernel_rfl, fun w hSw => by go_simp⟩
   try simp only [Act.put, gD, gE, gF]
   refine wpAnyH_ready (rs := [12]) (by kernel_rfl) (by simp) ?_
   refine (AllReadyH.cons (o := ?oom12) ?hom12 (fun K hK => ?hkm12) AllReadyH.nil)
   case hom12 =>
    simp only [gA, gB, gC]
    rfl
   case hkm12 =>
    go_simp
    go_at_call 125
    refine (hpush W1.drew (by go_grown)).mono ?_
    rintro e w6 ⟨⟨x6, rfl⟩, WA6, b6, kp6⟩
    have B6 : Hid (Below base w w6) := (Below.drew (BW1.out.mono hbase)).trans b6
    have N6 : Hid (w6.heap[w.heap.size]? = some (.cells #[.int .i64 (P' : Int), .int .i64 (I' : Int)] 56 (0, 0))) := kp6 _ _ _ _ (by omega) (by decide) HNP.out
    obtain ⟨_, cv6, blk6, own6⟩ := id WA6
    obtain ⟨⟨p0, p1, p2, p3, p4, p5⟩, q0, q1, q2, q3, q4, q5⟩ := wk_cells blk6
    have BK6 : Hid _ := blk6
    have OW6 : Hid (w6.ownsRow base 168 3 cv6 (s.op ++ [(s.p, s.i, s.h)]).length (ints (flat3 (s.op ++ [(s.p, s.i, s.h)])))) := own6
    have zB6 := (Array.getElem?_eq_some_iff.1 blk6).1
    have zN6 := (Array.getElem?_eq_some_iff.1 N6.out).1
    clear WA6 b6 kp6 blk6 own6
    try go_wp2_with fail
    refine hK.out _ _ ⟨⟨p3, p4⟩, p5⟩ (fun hHeld => ?_)
    clear hK K
    try simp only [Act.put, gD, gE, gF]
    refine wpAnyH_done (by kernel_rfl) ?_ _
    clear d0 d1 d2 d3 d4 d5 f0 f1 f2 f3 f4 f5
    go_wp2_with fail
    refine wp_region_late (S := fun w' => w'.cell? ⟨B, 2, none⟩ = some (.int .i64 c) ∧ w'.cell? ⟨B, 5, none⟩ = some (.int .i64 s.h)) (late := fun j => j == 13) (by kernel_rfl) ⟨p2, p5⟩ (fun hHeld => ?_)
    refine wpAnyG_take (i := 0) (oi := ?oimm0) (v := .pointer (some ⟨B, 0, none⟩)) ?himm0 (by kernel_rfl) (by kernel_rfl) (by kernel_rfl) (by kernel_rfl) ?hqmm0 ?hymm0 hHeld ?hrmm0
    case himm0 =>
     simp only [gA, gB, gC]
     rfl
    case hqmm0 => exact fun _ _ _ h => h
    case hymm0 => exact Or.inl ⟨by kernel_rfl, fun w hSw => by go_simp⟩
    try simp only [Act.put, gD, gE, gF]
    refine wpAnyG_take (i := 1) (oi := ?oimm1) (v := .pointer (some ⟨B, 0, none⟩)) ?himm1 (by kernel_rfl) (by kernel_rfl) (by kernel_rfl) (by kernel_rfl) ?hqmm1 ?hymm1 hHeld ?hrmm1
    case himm1 =>
     simp only [gA, gB, gC]
     rfl
    case hqmm1 => exact fun _ _ _ h => h
    case hymm1 => exact Or.inl ⟨by kernel_rfl, fun w hSw => by go_simp⟩
    try simp only [Act.put, gD, gE, gF]
    refine wpAnyG_take (i := 2) (oi := ?oimm2) (v := .pointer (some ⟨B, 0, none⟩)) ?himm2 (by kernel_rfl) (by kernel_rfl) (by kernel_rfl) (by kernel_rfl) ?hqmm2 ?hymm2 hHeld ?hrmm2
    case himm2 =>
     simp only [gA, gB, gC]
     rfl
    case hqmm2 => exact fun _ _ _ h => h
    case hymm2 => exact Or.inl ⟨by kernel_rfl, fun w hSw => by go_simp⟩
    try simp only [Act.put, gD, gE, gF]
    refine wpAnyG_take (i := 3) (oi := ?oimm3) (v := .pointer (some ⟨B, 2, none⟩)) ?himm3 (by kernel_rfl) (by kernel_rfl) (by kernel_rfl) (by kernel_rfl) ?hqmm3 ?hymm3 hHeld ?hrmm3
    case himm3 =>
     simp only [gA, gB, gC]
     rfl
    case hqmm3 => exact fun _ _ _ h => h
    case hymm3 => exact Or.inl ⟨by kernel_rfl, fun w hSw => by go_simp⟩
    try simp only [Act.put, gD, gE, gF]
    refine wpAnyG_take (i := 4) (oi := ?oimm4) (v := .int .i64 c) ?himm4 (by kernel_rfl) (by kernel_rfl) (by kernel_rfl) (by kernel_rfl) ?hqmm4 ?hymm4 hHeld ?hrmm4
    case himm4 =>
     simp only [gA, gB, gC]
     rfl
    case hqmm4 => exact fun _ _ _ h => h
    case hymm4 => exact Or.inl ⟨by kernel_rfl, fun w hSw => by obtain ⟨s1, s2⟩ := hSw; go_simp⟩
    try simp only [Act.put, gD, gE, gF]
    refine wpAnyG_take (i := 6) (oi := ?oimm6) (v := .pointer (some ⟨B, 0, none⟩)) ?himm6 (by kernel_rfl) (by kernel_rfl) (by kernel_rfl) (by kernel_rfl) ?hqmm6 ?hymm6 hHeld ?hrmm6
    case himm6 =>
     simp only [gA, gB, gC]
     rfl
    case hqmm6 => exact fun _ _ _ h => h
    case hymm6 => exact Or.inl ⟨by kernel_rfl, fun w hSw => by go_simp⟩
    try simp only [Act.put, gD, gE, gF]
    refine wpAnyG_take (i := 7) (oi := ?oimm7) (v := .pointer (some ⟨B, 0, none⟩)) ?himm7 (by kernel_rfl) (by kernel_rfl) (by kernel_rfl) (by kernel_rfl) ?hqmm7 ?hymm7 hHeld ?hrmm7
    case himm7 =>
     simp only [gA, gB, gC]
     rfl
    case hqmm7 => exact fun _ _ _ h => h
    case hymm7 => exact Or.inl ⟨by kernel_rfl, fun w hSw => by go_simp⟩
    try simp only [Act.put, gD, gE, gF]
    refine wpAnyG_take (i := 8) (oi := ?oimm8) (v := .pointer (some ⟨B, 5, none⟩)) ?himm8 (by kernel_rfl) (by kernel_rfl) (by kernel_rfl) (by kernel_rfl) ?hqmm8 ?hymm8 hHeld ?hrmm8
    case himm8 =>
     simp only [gA, gB, gC]
     rfl
    case hqmm8 => exact fun _ _ _ h => h
    case hymm8 => exact Or.inl ⟨by kernel_rfl, fun w hSw => by go_simp⟩
    try simp only [Act.put, gD, gE, gF]
    refine wpAnyG_take (i := 9) (oi := ?oimm9) (v := .int .i64 s.h) ?himm9 (by kernel_rfl) (by kernel_rfl) (by kernel_rfl) (by kernel_rfl) ?hqmm9 ?hymm9 hHeld ?hrmm9
    case himm9 =>
     simp only [gA, gB, gC]
     rfl
    case hqmm9 => exact fun _ _ _ h => h
    case hymm9 => exact Or.inl ⟨by kernel_rfl, fun w hSw => by obtain ⟨s1, s2⟩ := hSw; go_simp⟩
    try simp only [Act.put, gD, gE, gF]
    refine wpAnyG_ready (rs := [5]) (by kernel_rfl) (by simp) ?_
    refine (AllReadyG.cons (o := ?oomm5) ?homm5 (fun K hK => ?hkmm5) AllReadyG.nil)
    case homm5 =>
     simp only [gA, gB, gC]
     rfl
    case hkmm5 =>
     go_simp
     go_at_call 113
     refine (implEnter c _).mono ?_
     rintro e w7 ⟨a7, rfl, o7, b7⟩
     have B7 : Hid (Below w6.heap.size w6 w7) := Below.trans (by go_grown) b7
     clear b7
     try go_wp2_with fail
     refine hK.out _ _ (Or.inr ⟨(B7.out.cell zB6).trans p2, (B7.out.cell zB6).trans p5⟩) (fun hHeld => ?_)
     replace hHeld := hHeld.resolve_left (by decide)
     clear hK K
     try simp only [Act.put, gD, gE, gF]
     refine wpAnyG_ready (rs := [10]) (by kernel_rfl) (by simp) ?_
     refine (AllReadyG.cons (o := ?oomm10) ?homm10 (fun K hK => ?hkmm10) AllReadyG.nil)
     case homm10 =>
      simp only [gA, gB, gC]
      rfl
     case hkmm10 =>
      go_simp
      go_at_call 126
      refine (hie _ _ (reads_own o7)).mono ?_
      rintro e w8 ⟨rfl, b8⟩
      have B8 : Hid (Below w6.heap.size w6 w8) := B7.out.trans (b8.mono B7.out.size)
      clear b8
      try go_wp2_with fail
      refine hK.out _ _ (Or.inr ⟨(B8.out.cell zB6).trans p2, (B8.out.cell zB6).trans p5⟩) (fun hHeld => ?_)
      replace hHeld := hHeld.resolve_left (by decide)
      clear hK K
      try simp only [Act.put, gD, gE, gF]
      refine wpAnyG_ready (rs := [11]) (by kernel_rfl) (by simp) ?_
      refine (AllReadyG.cons (o := ?oomm11) ?homm11 (fun K hK => ?hkmm11) AllReadyG.nil)
      case homm11 =>
       simp only [gA, gB, gC]
       rfl
      case hkmm11 =>
       go_simp
       try go_wp2_with fail
       refine hK.out _ _ (Or.inr hHeld) (fun hHeld => ?_)
       replace hHeld := hHeld.resolve_left (by decide)
       clear hK K
       try simp only [Act.put, gD, gE, gF]
       refine wpAnyG_ready (rs := [12]) (by kernel_rfl) (by simp) ?_
       refine (AllReadyG.cons (o := ?oomm12) ?homm12 (fun K hK => ?hkmm12) AllReadyG.nil)
       case homm12 =>
        simp only [gA, gB, gC]
        rfl
       case hkmm12 =>
        go_simp
        try go_wp2_with fail
        refine hK.out _ _ (Or.inr hHeld) (fun hHeld => ?_)
        replace hHeld := hHeld.resolve_left (by decide)
        clear hK K
        try simp only [Act.put, gD, gE, gF]
        refine wpAnyG_ready (rs := [13]) (by kernel_rfl) (by simp) ?_
        refine (AllReadyG.cons (o := ?oomm13) ?homm13 (fun K hK => ?hkmm13) AllReadyG.nil)
        case homm13 =>
         simp only [gA, gB, gC]
         rfl
        case hkmm13 =>
         obtain ⟨⟨l0, l1, l2, l3, l4, l5⟩, m0, m1, m2, m3, m4, m5⟩ := wk_cells ((B8.out.block B zB6).trans BK6.out)
         go_simp
         try go_wp2_with fail
         refine hK.out _ _ (Or.inl rfl) (fun _ => ?_)
         clear hK K
         try simp only [Act.put, gD, gE, gF]
         refine wpAnyG_done (by kernel_rfl) ?_ _
         have E5 : Hid _ := heap_setCell_same w8 B 5 _ _ (.int .i64 (img (enterAns c) s.h)) ((B8.out.block B zB6).trans BK6.out)
         have N5 : Hid ((w8.setCell ⟨B, 5, none⟩ (.int .i64 (img (enterAns c) s.h))).heap[w.heap.size]? = some (.cells #[.int .i64 (P' : Int), .int .i64 (I' : Int)] 56 (0, 0))) := ((grown_setCellW w8 B 5 (.int .i64 (img (enterAns c) s.h))).block w.heap.size (Array.getElem?_eq_some_iff.1 (((B8.out.block _ zN6).trans N6.out))).1 (fun e => by have := Option.some.inj e; omega)).trans (((B8.out.block _ zN6).trans N6.out))
         have R5 : Hid ((w8.setCell ⟨B, 5, none⟩ (.int .i64 (img (enterAns c) s.h))).ownsRow base 168 3 cv6 (s.op ++ [(s.p, s.i, s.h)]).length (ints (flat3 (s.op ++ [(s.p, s.i, s.h)])))) := ownsRow_setCell_other ((own_kept OW6.out B8.out)) (fun e => row_notW ((own_kept OW6.out B8.out)) (((B8.out.block B zB6).trans BK6.out)) (by decide) e) _
         have B5 : Hid (Below base w (w8.setCell ⟨B, 5, none⟩ (.int .i64 (img (enterAns c) s.h)))) := Below.setCell ((B6.out.trans (B8.out.mono (by have := B6.out.size; omega)))) hBb _
         have E5y : Hid ((w8.setCell ⟨B, 5, none⟩ (.int .i64 (img (enterAns c) s.h))).heap[B]? = some (.cells #[cv6, v, .int .i64 c, .int .i64 (s.p : Int), .int .i64 (s.i : Int), .int .i64 (img (enterAns c) s.h)] 109 (0, 0))) := E5.out
         generalize w8.setCell ⟨B, 5, none⟩ (.int .i64 (img (enterAns c) s.h)) = y at *
         clear E5
         obtain ⟨⟨e0, e1, e2, e3, e4, e5⟩, g0, g1, g2, g3, g4, g5⟩ := wk_cells E5y.out
         obtain ⟨n0, n1⟩ := go_cells2 N5.out
         go_wp2_with fail
         go_end0
         refine ⟨⟨_, rfl⟩, ?_, ?_⟩
         · rw [HD8.out]
           refine ⟨hBb, cv6, ?_, ?_⟩
           · have h1 := heap_setCell_same y B 3 _ _ (.int .i64 (P' : Int)) E5y.out
             exact heap_setCell_same _ B 4 _ _ (.int .i64 (I' : Int)) h1
           · exact ownsRow_setCell_other (ownsRow_setCell_other R5.out (fun e => row_notW R5.out E5y.out (by decide) e) _) (fun e => row_notW R5.out E5y.out (by decide) e) _
         · exact Below.setCell (Below.setCell B5.out hBb _) hBb _
 by_cases h9 : t.k = 9
 · have hop9 := hne h9
   rcases List.eq_nil_or_concat s.op with hcc | ⟨op', t', hcc⟩
   · exact absurd hcc hop9
   rw [List.concat_eq_append] at hcc
   have HD9 : Hid (D = ⟨P', I', op', lor (img leaveL s.h) (img keepL t'.2.2)⟩) := by
    show D = _
    rw [HDO.out]; unfold opS hS lastK; rw [if_neg h8, if_pos h9, if_neg h8, if_pos h9, hcc]; simp
   rw [h9] at k0
   clear h8 h9 hne
   have hts := (HOP.out t' (by rw [hcc]; simp)).2.2.2
   have hig9 := fun a W hr => implImage leaveL s.h a W (by decide) hr
   rw [imageAns_img leave_smalls HSH.out] at hig9
   have hik9 := fun a W hr => implImage keepL t'.2.2 a W (by decide) hr
   rw [imageAns_img keep_smalls hts] at hik9
   have hpop := fun W' (hb : Below W1.heap.size W1 W') => implPop c s base B v W' op' t' hcc (by rw [hcc] at hlen; simp at hlen; omega) (by have := hb.size; omega) (HW1.out.below hb)
   obtain ⟨tp, ti, tk⟩ := t'
   simp only at hts hik9 hpop HD9
   clear hcc hop9
   go_wp2_with fail
   refine wp_region_late (S := fun w' => w'.cell? ⟨B, 5, none⟩ = some (.int .i64 s.h)) (late := fun j => j == 17) (by kernel_rfl) d5 (fun hHeld => ?_)
   refine wpAnyG_take (i := 0) (oi := ?oin0) (v := .pointer (some ⟨B, 0, none⟩)) ?hin0 (by kernel_rfl) (by kernel_rfl) (by kernel_rfl) (by kernel_rfl) ?hqn0 ?hyn0 hHeld ?hrn0
   case hin0 =>
    simp only [gA, gB, gC]
    rfl
   case hqn0 => exact fun _ _ _ h => h
   case hyn0 => exact Or.inl ⟨by kernel_rfl, fun w hSw => by go_simp⟩
   try simp only [Act.put, gD, gE, gF]
   refine wpAnyG_take (i := 2) (oi := ?oin2) (v := .pointer (some ⟨B, 0, none⟩)) ?hin2 (by kernel_rfl) (by kernel_rfl) (by kernel_rfl) (by kernel_rfl) ?hqn2 ?hyn2 hHeld ?hrn2
   case hin2 =>
    simp only [gA, gB, gC]
    rfl
   case hqn2 => exact fun _ _ _ h => h
   case hyn2 => exact Or.inl ⟨by kernel_rfl, fun w hSw => by go_simp⟩
   try simp only [Act.put, gD, gE, gF]
   refine wpAnyG_take (i := 3) (oi := ?oin3) (v := .pointer (some ⟨B, 0, none⟩)) ?hin3 (by kernel_rfl) (by kernel_rfl) (by kernel_rfl) (by kernel_rfl) ?hqn3 ?hyn3 hHeld ?hrn3
   case hin3 =>
    simp only [gA, gB, gC]
    rfl
   case hqn3 => exact fun _ _ _ h => h
   case hyn3 => exact Or.inl ⟨by kernel_rfl, fun w hSw => by go_simp⟩
   try simp only [Act.put, gD, gE, gF]
   refine wpAnyG_take (i := 4) (oi := ?oin4) (v := .pointer (some ⟨B, 5, none⟩)) ?hin4 (by kernel_rfl) (by kernel_rfl) (by kernel_rfl) (by kernel_rfl) ?hqn4 ?hyn4 hHeld ?hrn4
   case hin4 =>
    simp only [gA, gB, gC]
    rfl
   case hqn4 => exact fun _ _ _ h => h
   case hyn4 => exact Or.inl ⟨by kernel_rfl, fun w hSw => by go_simp⟩
   try simp only [Act.put, gD, gE, gF]
   refine wpAnyG_take (i := 5) (oi := ?oin5) (v := .int .i64 s.h) ?hin5 (by kernel_rfl) (by kernel_rfl) (by kernel_rfl) (by kernel_rfl) ?hqn5 ?hyn5 hHeld ?hrn5
   case hin5 =>
    simp only [gA, gB, gC]
    rfl
   case hqn5 => exact fun _ _ _ h => h
   case hyn5 => exact Or.inl ⟨by kernel_rfl, fun w hSw => by go_simp⟩
   try simp only [Act.put, gD, gE, gF]
   refine wpAnyG_take (i := 8) (oi := ?oin8) (v := .pointer (some ⟨B, 0, none⟩)) ?hin8 (by kernel_rfl) (by kernel_rfl) (by kernel_rfl) (by kernel_rfl) ?hqn8 ?hyn8 hHeld ?hrn8
   case hin8 =>
    simp only [gA, gB, gC]
    rfl
   case hqn8 => exact fun _ _ _ h => h
   case hyn8 => exact Or.inl ⟨by kernel_rfl, fun w hSw => by go_simp⟩
   try simp only [Act.put, gD, gE, gF]
   refine wpAnyG_take (i := 9) (oi := ?oin9) (v := .pointer (some ⟨B, 0, none⟩)) ?hin9 (by kernel_rfl) (by kernel_rfl) (by kernel_rfl) (by kernel_rfl) ?hqn9 ?hyn9 hHeld ?hrn9
   case hin9 =>
    simp only [gA, gB, gC]
    rfl
   case hqn9 => exact fun _ _ _ h => h
   case hyn9 => exact Or.inl ⟨by kernel_rfl, fun w hSw => by go_simp⟩
   try simp only [Act.put, gD, gE, gF]
   refine wpAnyG_take (i := 10) (oi := ?oin10) (v := .pointer (some ⟨B, 0, none⟩)) ?hin10 (by kernel_rfl) (by kernel_rfl) (by kernel_rfl) (by kernel_rfl) ?hqn10 ?hyn10 hHeld ?hrn10
   case hin10 =>
    simp only [gA, gB, gC]
    rfl
   case hqn10 => exact fun _ _ _ h => h
   case hyn10 => exact Or.inl ⟨by kernel_rfl, fun w hSw => by go_simp⟩
   try simp only [Act.put, gD, gE, gF]
   refine wpAnyG_ready (rs := [1]) (by kernel_rfl) (by simp) ?_
   refine (AllReadyG.cons (o := ?oon1) ?hon1 (fun K hK => ?hkn1) AllReadyG.nil)
   case hon1 =>
    simp only [gA, gB, gC]
    rfl
   case hkn1 =>
    go_simp
    go_at_call 127
    refine (implLeave _).mono ?_
    rintro e w3 ⟨a3, rfl, o3, b3⟩
    have B3 : Hid (Below W1.heap.size W1 w3) := Below.trans (by go_grown) b3
    clear b3
    try go_wp2_with fail
    refine hK.out _ _ (Or.inr ((B3.out.cell zB).trans d5)) (fun hHeld => ?_)
    replace hHeld := hHeld.resolve_left (by decide)
    clear hK K
    try simp only [Act.put, gD, gE, gF]
    refine wpAnyG_ready (rs := [6]) (by kernel_rfl) (by simp) ?_
    refine (AllReadyG.cons (o := ?oon6) ?hon6 (fun K hK => ?hkn6) AllReadyG.nil)
    case hon6 =>
     simp only [gA, gB, gC]
     rfl
    case hkn6 =>
     go_simp
     go_at_call 126
     refine (hig9 _ _ (reads_own o3)).mono ?_
     rintro e w4 ⟨rfl, b4⟩
     have B4 : Hid (Below W1.heap.size W1 w4) := B3.out.trans (b4.mono B3.out.size)
     clear b4
     try go_wp2_with fail
     refine hK.out _ _ (Or.inr ((B4.out.cell zB).trans d5)) (fun hHeld => ?_)
     replace hHeld := hHeld.resolve_left (by decide)
     clear hK K
     try simp only [Act.put, gD, gE, gF]
     refine wpAnyG_ready (rs := [7]) (by kernel_rfl) (by simp) ?_
     refine (AllReadyG.cons (o := ?oon7) ?hon7 (fun K hK => ?hkn7) AllReadyG.nil)
     case hon7 =>
      simp only [gA, gB, gC]
      rfl
     case hkn7 =>
      go_simp
      go_at_call 128
      refine (implKeep _).mono ?_
      rintro e w5 ⟨a5, rfl, o5, b5⟩
      have B5 : Hid (Below W1.heap.size W1 w5) := B4.out.trans (b5.mono B4.out.size)
      clear b5
      try go_wp2_with fail
      refine hK.out _ _ (Or.inr ((B5.out.cell zB).trans d5)) (fun hHeld => ?_)
      replace hHeld := hHeld.resolve_left (by decide)
      clear hK K
      try simp only [Act.put, gD, gE, gF]
      refine wpAnyG_ready (rs := [11]) (by kernel_rfl) (by simp) ?_
      refine (AllReadyG.cons (o := ?oon11) ?hon11 (fun K hK => ?hkn11) AllReadyG.nil)
      case hon11 =>
       simp only [gA, gB, gC]
       rfl
      case hkn11 =>
       go_simp
       have BASE5 : Hid (Below base w w5) := (BW1.out.mono hbase).trans (B5.out.mono hb1)
       go_at_call 129
       refine (hpop w5 B5.out).mono ?_
       rintro e w6 ⟨rfl, WA6, b6, kp6⟩
       have H6 : Hid (WAt w6 base B v c ⟨s.p, s.i, op', s.h⟩) := WA6
       have B6 : Hid (Below base w w6) := BASE5.out.trans b6
       have N6 : Hid (w6.heap[w.heap.size]? = some (.cells #[.int .i64 (P' : Int), .int .i64 (I' : Int)] 56 (0, 0))) := kp6 _ _ _ _ (by omega) (by decide) ((B5.out.block _ z2).trans HNP.out)
       obtain ⟨_, cv6, blk6, own6⟩ := id WA6
       obtain ⟨⟨_, _, _, _, _, p5⟩, _⟩ := wk_cells blk6
       have BK6 : Hid _ := blk6
       have RD6 : Hid (Reads w6 a5 (ints keepL)) := reads_own (own_same o5 (fun q hq => keepT_own kp6 o5 (fun k hk e => row_notW o5 ((B5.out.block B zB).trans HBK.out) (by decide) (e ▸ hk)) (by decide) hq))
       have OW6 : Hid (w6.ownsRow base 168 3 cv6 op'.length (ints (flat3 op'))) := own6
       have zB6 := (Array.getElem?_eq_some_iff.1 blk6).1
       have zN6 := (Array.getElem?_eq_some_iff.1 N6.out).1
       clear WA6 b6 kp6 blk6 own6
       try go_wp2_with fail
       refine hK.out _ _ (Or.inr p5) (fun hHeld => ?_)
       replace hHeld := hHeld.resolve_left (by decide)
       clear hK K
       try simp only [Act.put, gD, gE, gF]
       refine wpAnyG_take (i := 12) (oi := ?oin12) (v := .int .i64 tk) ?hin12 (by kernel_rfl) (by kernel_rfl) (by kernel_rfl) (by kernel_rfl) ?hqn12 ?hyn12 hHeld ?hrn12
       case hin12 =>
        simp only [gA, gB, gC]
        rfl
       case hqn12 => exact fun _ _ _ h => h
       case hyn12 => exact Or.inl ⟨by kernel_rfl, fun w hSw => by have hfk := field_kept (tp : Int) (ti : Int) tk w; go_simp⟩
       try simp only [Act.put, gD, gE, gF]
       refine wpAnyG_ready (rs := [13]) (by kernel_rfl) (by simp) ?_
       refine (AllReadyG.cons (o := ?oon13) ?hon13 (fun K hK => ?hkn13) AllReadyG.nil)
       case hon13 =>
        simp only [gA, gB, gC]
        rfl
       case hkn13 =>
        go_simp
        skip
        go_at_call 126
        refine (hik9 _ _ RD6.out).mono ?_
        rintro e w7 ⟨rfl, b7⟩
        have B7 : Hid (Below w6.heap.size w6 w7) := b7
        clear b7
        try go_wp2_with fail
        refine hK.out _ _ (Or.inr ((B7.out.cell zB6).trans p5)) (fun hHeld => ?_)
        replace hHeld := hHeld.resolve_left (by decide)
        clear hK K
        try simp only [Act.put, gD, gE, gF]
        refine wpAnyG_take (i := 14) (oi := ?oin14) (v := .int .i64 (lor (img leaveL s.h) (img keepL tk))) ?hin14 (by kernel_rfl) (by kernel_rfl) (by kernel_rfl) (by kernel_rfl) ?hqn14 ?hyn14 hHeld ?hrn14
        case hin14 =>
         simp only [gA, gB, gC]
         rfl
        case hqn14 => exact fun _ _ _ h => h
        case hyn14 => exact Or.inl ⟨by kernel_rfl, fun w hSw => by (show _ = _); go_simp; rfl⟩
        try simp only [Act.put, gD, gE, gF]
        refine wpAnyG_ready (rs := [15]) (by kernel_rfl) (by simp) ?_
        refine (AllReadyG.cons (o := ?oon15) ?hon15 (fun K hK => ?hkn15) AllReadyG.nil)
        case hon15 =>
         simp only [gA, gB, gC]
         rfl
        case hkn15 =>
         go_simp
         try go_wp2_with fail
         refine hK.out _ _ (Or.inr hHeld) (fun hHeld => ?_)
         replace hHeld := hHeld.resolve_left (by decide)
         clear hK K
         try simp only [Act.put, gD, gE, gF]
         refine wpAnyG_ready (rs := [16]) (by kernel_rfl) (by simp) ?_
         refine (AllReadyG.cons (o := ?oon16) ?hon16 (fun K hK => ?hkn16) AllReadyG.nil)
         case hon16 =>
          simp only [gA, gB, gC]
          rfl
         case hkn16 =>
          go_simp
          try go_wp2_with fail
          refine hK.out _ _ (Or.inr hHeld) (fun hHeld => ?_)
          replace hHeld := hHeld.resolve_left (by decide)
          clear hK K
          try simp only [Act.put, gD, gE, gF]
          refine wpAnyG_ready (rs := [17]) (by kernel_rfl) (by simp) ?_
          refine (AllReadyG.cons (o := ?oon17) ?hon17 (fun K hK => ?hkn17) AllReadyG.nil)
          case hon17 =>
           simp only [gA, gB, gC]
           rfl
          case hkn17 =>
           obtain ⟨⟨l0, l1, l2, l3, l4, l5⟩, m0, m1, m2, m3, m4, m5⟩ := wk_cells ((B7.out.block B zB6).trans BK6.out)
           go_simp
           try go_wp2_with fail
           refine hK.out _ _ (Or.inl rfl) (fun _ => ?_)
           clear hK K
           try simp only [Act.put, gD, gE, gF]
           refine wpAnyG_done (by kernel_rfl) ?_ _
           have E5 : Hid _ := heap_setCell_same w7 B 5 _ _ (.int .i64 (lor (img leaveL s.h) (img keepL tk))) ((B7.out.block B zB6).trans BK6.out)
           have N5 : Hid ((w7.setCell ⟨B, 5, none⟩ (.int .i64 (lor (img leaveL s.h) (img keepL tk)))).heap[w.heap.size]? = some (.cells #[.int .i64 (P' : Int), .int .i64 (I' : Int)] 56 (0, 0))) := ((grown_setCellW w7 B 5 (.int .i64 (lor (img leaveL s.h) (img keepL tk)))).block w.heap.size (Array.getElem?_eq_some_iff.1 (((B7.out.block _ zN6).trans N6.out))).1 (fun e => by have := Option.some.inj e; omega)).trans (((B7.out.block _ zN6).trans N6.out))
           have R5 : Hid ((w7.setCell ⟨B, 5, none⟩ (.int .i64 (lor (img leaveL s.h) (img keepL tk)))).ownsRow base 168 3 cv6 op'.length (ints (flat3 op'))) := ownsRow_setCell_other ((own_kept OW6.out B7.out)) (fun e => row_notW ((own_kept OW6.out B7.out)) (((B7.out.block B zB6).trans BK6.out)) (by decide) e) _
           have B5 : Hid (Below base w (w7.setCell ⟨B, 5, none⟩ (.int .i64 (lor (img leaveL s.h) (img keepL tk))))) := Below.setCell ((B6.out.trans (B7.out.mono (by have := B6.out.size; omega)))) hBb _
           have E5y : Hid ((w7.setCell ⟨B, 5, none⟩ (.int .i64 (lor (img leaveL s.h) (img keepL tk)))).heap[B]? = some (.cells #[cv6, v, .int .i64 c, .int .i64 (s.p : Int), .int .i64 (s.i : Int), .int .i64 (lor (img leaveL s.h) (img keepL tk))] 109 (0, 0))) := E5.out
           generalize w7.setCell ⟨B, 5, none⟩ (.int .i64 (lor (img leaveL s.h) (img keepL tk))) = y at *
           clear E5
           obtain ⟨⟨e0, e1, e2, e3, e4, e5⟩, g0, g1, g2, g3, g4, g5⟩ := wk_cells E5y.out
           obtain ⟨n0, n1⟩ := go_cells2 N5.out
           go_wp2_with fail
           go_end0
           refine ⟨⟨_, rfl⟩, ?_, ?_⟩
           · rw [HD9.out]
             refine ⟨hBb, cv6, ?_, ?_⟩
             · have h1 := heap_setCell_same y B 3 _ _ (.int .i64 (P' : Int)) E5y.out
               exact heap_setCell_same _ B 4 _ _ (.int .i64 (I' : Int)) h1
             · exact ownsRow_setCell_other (ownsRow_setCell_other R5.out (fun e => row_notW R5.out E5y.out (by decide) e) _) (fun e => row_notW R5.out E5y.out (by decide) e) _
           · exact Below.setCell (Below.setCell B5.out hBb _) hBb _
 have HDE : Hid (D = ⟨P', I', s.op, img (flowL c t.k t.x t.y) s.h⟩) := by
  show D = _
  rw [HDO.out]; unfold opS hS; rw [if_neg h8, if_neg h9, if_neg h8, if_neg h9]
 have hx8 : (t.k == 8) = false := by simpa using h8
 have hx9 : (t.k == 9) = false := by simpa using h9
 clear hne
 have hfl := fun W => implFlow c t.k t.x t.y W
 rw [flowAns_ok hc hso] at hfl
 have hfsm := flowL_smalls (c := c) hso
 have hig := fun a W hr => implImage (flowL c t.k t.x t.y) s.h a W (by rw [hfsm.1]; decide) hr
 rw [imageAns_img hfsm HSH.out] at hig
 go_wp2_with fail
 refine wp_region_late (S := fun w' => (w'.cell? ⟨B, 2, none⟩ = some (.int .i64 c) ∧ w'.cell? ⟨B, 5, none⟩ = some (.int .i64 s.h)) ∧ w'.cell? ⟨w1.heap.size, 0, none⟩ = some (.int .i64 t.k) ∧ w'.cell? ⟨w1.heap.size, 1, none⟩ = some (.int .i64 t.x) ∧ w'.cell? ⟨w1.heap.size, 2, none⟩ = some (.int .i64 t.y)) (late := fun j => j == 14) (by kernel_rfl) ⟨⟨d2, d5⟩, k0, k1, k2⟩ (fun hHeld => ?_)
 refine wpAnyG_take (i := 0) (oi := ?oie0) (v := .pointer (some ⟨B, 0, none⟩)) ?hie0 (by kernel_rfl) (by kernel_rfl) (by kernel_rfl) (by kernel_rfl) ?hqe0 ?hye0 hHeld ?hre0
 case hie0 =>
  simp only [gA, gB, gC]
  rfl
 case hqe0 => exact fun _ _ _ h => h
 case hye0 => exact Or.inl ⟨by kernel_rfl, fun w hSw => by go_simp⟩
 try simp only [Act.put, gD, gE, gF]
 refine wpAnyG_take (i := 1) (oi := ?oie1) (v := .pointer (some ⟨B, 0, none⟩)) ?hie1 (by kernel_rfl) (by kernel_rfl) (by kernel_rfl) (by kernel_rfl) ?hqe1 ?hye1 hHeld ?hre1
 case hie1 =>
  simp only [gA, gB, gC]
  rfl
 case hqe1 => exact fun _ _ _ h => h
 case hye1 => exact Or.inl ⟨by kernel_rfl, fun w hSw => by go_simp⟩
 try simp only [Act.put, gD, gE, gF]
 refine wpAnyG_take (i := 2) (oi := ?oie2) (v := .pointer (some ⟨B, 0, none⟩)) ?hie2 (by kernel_rfl) (by kernel_rfl) (by kernel_rfl) (by kernel_rfl) ?hqe2 ?hye2 hHeld ?hre2
 case hie2 =>
  simp only [gA, gB, gC]
  rfl
 case hqe2 => exact fun _ _ _ h => h
 case hye2 => exact Or.inl ⟨by kernel_rfl, fun w hSw => by go_simp⟩
 try simp only [Act.put, gD, gE, gF]
 refine wpAnyG_take (i := 3) (oi := ?oie3) (v := .pointer (some ⟨B, 2, none⟩)) ?hie3 (by kernel_rfl) (by kernel_rfl) (by kernel_rfl) (by kernel_rfl) ?hqe3 ?hye3 hHeld ?hre3
 case hie3 =>
  simp only [gA, gB, gC]
  rfl
 case hqe3 => exact fun _ _ _ h => h
 case hye3 => exact Or.inl ⟨by kernel_rfl, fun w hSw => by go_simp⟩
 try simp only [Act.put, gD, gE, gF]
 refine wpAnyG_take (i := 4) (oi := ?oie4) (v := .int .i64 c) ?hie4 (by kernel_rfl) (by kernel_rfl) (by kernel_rfl) (by kernel_rfl) ?hqe4 ?hye4 hHeld ?hre4
 case hie4 =>
  simp only [gA, gB, gC]
  rfl
 case hqe4 => exact fun _ _ _ h => h
 case hye4 => exact Or.inl ⟨by kernel_rfl, fun w hSw => by obtain ⟨⟨s1, s2⟩, s3, s4, s5⟩ := hSw; go_simp⟩
 try simp only [Act.put, gD, gE, gF]
 refine wpAnyG_take (i := 5) (oi := ?oie5) (v := .agg #[.int .i64 t.k, .int .i64 t.x, .int .i64 t.y]) ?hie5 (by kernel_rfl) (by kernel_rfl) (by kernel_rfl) (by kernel_rfl) ?hqe5 ?hye5 hHeld ?hre5
 case hie5 =>
  simp only [gA, gB, gC]
  rfl
 case hqe5 => exact fun _ _ _ h => h
 case hye5 => exact Or.inl ⟨by kernel_rfl, fun w hSw => by obtain ⟨⟨s1, s2⟩, s3, s4, s5⟩ := hSw; go_simp⟩
 try simp only [Act.put, gD, gE, gF]
 refine wpAnyG_take (i := 7) (oi := ?oie7) (v := .pointer (some ⟨B, 0, none⟩)) ?hie7 (by kernel_rfl) (by kernel_rfl) (by kernel_rfl) (by kernel_rfl) ?hqe7 ?hye7 hHeld ?hre7
 case hie7 =>
  simp only [gA, gB, gC]
  rfl
 case hqe7 => exact fun _ _ _ h => h
 case hye7 => exact Or.inl ⟨by kernel_rfl, fun w hSw => by go_simp⟩
 try simp only [Act.put, gD, gE, gF]
 refine wpAnyG_take (i := 8) (oi := ?oie8) (v := .pointer (some ⟨B, 0, none⟩)) ?hie8 (by kernel_rfl) (by kernel_rfl) (by kernel_rfl) (by kernel_rfl) ?hqe8 ?hye8 hHeld ?hre8
 case hie8 =>
  simp only [gA, gB, gC]
  rfl
 case hqe8 => exact fun _ _ _ h => h
 case hye8 => exact Or.inl ⟨by kernel_rfl, fun w hSw => by go_simp⟩
 try simp only [Act.put, gD, gE, gF]
 refine wpAnyG_take (i := 9) (oi := ?oie9) (v := .pointer (some ⟨B, 5, none⟩)) ?hie9 (by kernel_rfl) (by kernel_rfl) (by kernel_rfl) (by kernel_rfl) ?hqe9 ?hye9 hHeld ?hre9
 case hie9 =>
  simp only [gA, gB, gC]
  rfl
 case hqe9 => exact fun _ _ _ h => h
 case hye9 => exact Or.inl ⟨by kernel_rfl, fun w hSw => by go_simp⟩
 try simp only [Act.put, gD, gE, gF]
 refine wpAnyG_take (i := 10) (oi := ?oie10) (v := .int .i64 s.h) ?hie10 (by kernel_rfl) (by kernel_rfl) (by kernel_rfl) (by kernel_rfl) ?hqe10 ?hye10 hHeld ?hre10
 case hie10 =>
  simp only [gA, gB, gC]
  rfl
 case hqe10 => exact fun _ _ _ h => h
 case hye10 => exact Or.inl ⟨by kernel_rfl, fun w hSw => by obtain ⟨⟨s1, s2⟩, s3, s4, s5⟩ := hSw; go_simp⟩
 try simp only [Act.put, gD, gE, gF]
 refine wpAnyG_ready (rs := [6]) (by kernel_rfl) (by simp) ?_
 refine (AllReadyG.cons (o := ?ooe6) ?hoe6 (fun K hK => ?hke6) AllReadyG.nil)
 case hoe6 =>
  simp only [gA, gB, gC]
  rfl
 case hke6 =>
  go_simp
  go_at_call 130
  refine (hfl _).mono ?_
  rintro e w3 ⟨a3, rfl, o3, b3⟩
  have B3 : Hid (Below W1.heap.size W1 w3) := Below.trans (by go_grown) b3
  clear b3
  try go_wp2_with fail
  refine hK.out _ _ (Or.inr ⟨⟨(B3.out.cell zB).trans d2, (B3.out.cell zB).trans d5⟩, (B3.out.cell z1).trans k0, (B3.out.cell z1).trans k1, (B3.out.cell z1).trans k2⟩) (fun hHeld => ?_)
  replace hHeld := hHeld.resolve_left (by decide)
  clear hK K
  try simp only [Act.put, gD, gE, gF]
  refine wpAnyG_ready (rs := [11]) (by kernel_rfl) (by simp) ?_
  refine (AllReadyG.cons (o := ?ooe11) ?hoe11 (fun K hK => ?hke11) AllReadyG.nil)
  case hoe11 =>
   simp only [gA, gB, gC]
   rfl
  case hke11 =>
   go_simp
   go_at_call 126
   refine (hig _ _ (reads_own o3)).mono ?_
   rintro e w4 ⟨rfl, b4⟩
   have B4 : Hid (Below W1.heap.size W1 w4) := B3.out.trans (b4.mono B3.out.size)
   clear b4
   try go_wp2_with fail
   refine hK.out _ _ (Or.inr ⟨⟨(B4.out.cell zB).trans d2, (B4.out.cell zB).trans d5⟩, (B4.out.cell z1).trans k0, (B4.out.cell z1).trans k1, (B4.out.cell z1).trans k2⟩) (fun hHeld => ?_)
   replace hHeld := hHeld.resolve_left (by decide)
   clear hK K
   try simp only [Act.put, gD, gE, gF]
   refine wpAnyG_ready (rs := [12]) (by kernel_rfl) (by simp) ?_
   refine (AllReadyG.cons (o := ?ooe12) ?hoe12 (fun K hK => ?hke12) AllReadyG.nil)
   case hoe12 =>
    simp only [gA, gB, gC]
    rfl
   case hke12 =>
    go_simp
    try go_wp2_with fail
    refine hK.out _ _ (Or.inr hHeld) (fun hHeld => ?_)
    replace hHeld := hHeld.resolve_left (by decide)
    clear hK K
    try simp only [Act.put, gD, gE, gF]
    refine wpAnyG_ready (rs := [13]) (by kernel_rfl) (by simp) ?_
    refine (AllReadyG.cons (o := ?ooe13) ?hoe13 (fun K hK => ?hke13) AllReadyG.nil)
    case hoe13 =>
     simp only [gA, gB, gC]
     rfl
    case hke13 =>
     go_simp
     try go_wp2_with fail
     refine hK.out _ _ (Or.inr hHeld) (fun hHeld => ?_)
     replace hHeld := hHeld.resolve_left (by decide)
     clear hK K
     try simp only [Act.put, gD, gE, gF]
     refine wpAnyG_ready (rs := [14]) (by kernel_rfl) (by simp) ?_
     refine (AllReadyG.cons (o := ?ooe14) ?hoe14 (fun K hK => ?hke14) AllReadyG.nil)
     case hoe14 =>
      simp only [gA, gB, gC]
      rfl
     case hke14 =>
      obtain ⟨⟨l0, l1, l2, l3, l4, l5⟩, m0, m1, m2, m3, m4, m5⟩ := wk_cells ((B4.out.block B zB).trans HBK.out)
      go_simp
      try go_wp2_with fail
      refine hK.out _ _ (Or.inl rfl) (fun _ => ?_)
      clear hK K
      try simp only [Act.put, gD, gE, gF]
      refine wpAnyG_done (by kernel_rfl) ?_ _
      have E5 : Hid _ := heap_setCell_same w4 B 5 _ _ (.int .i64 (img (flowL c t.k t.x t.y) s.h)) ((B4.out.block B zB).trans HBK.out)
      have N5 : Hid ((w4.setCell ⟨B, 5, none⟩ (.int .i64 (img (flowL c t.k t.x t.y) s.h))).heap[w.heap.size]? = some (.cells #[.int .i64 (P' : Int), .int .i64 (I' : Int)] 56 (0, 0))) := ((grown_setCellW w4 B 5 (.int .i64 (img (flowL c t.k t.x t.y) s.h))).block w.heap.size (Array.getElem?_eq_some_iff.1 (((B4.out.block _ z2).trans HNP.out))).1 (fun e => by have := Option.some.inj e; omega)).trans (((B4.out.block _ z2).trans HNP.out))
      have R5 : Hid ((w4.setCell ⟨B, 5, none⟩ (.int .i64 (img (flowL c t.k t.x t.y) s.h))).ownsRow base 168 3 cv s.op.length (ints (flat3 s.op))) := ownsRow_setCell_other ((own_kept HOW.out B4.out)) (fun e => row_notW ((own_kept HOW.out B4.out)) (((B4.out.block B zB).trans HBK.out)) (by decide) e) _
      have B5 : Hid (Below base w (w4.setCell ⟨B, 5, none⟩ (.int .i64 (img (flowL c t.k t.x t.y) s.h)))) := Below.setCell (((BW1.out.mono hbase).trans (B4.out.mono hb1))) hBb _
      have E5y : Hid ((w4.setCell ⟨B, 5, none⟩ (.int .i64 (img (flowL c t.k t.x t.y) s.h))).heap[B]? = some (.cells #[cv, v, .int .i64 c, .int .i64 (s.p : Int), .int .i64 (s.i : Int), .int .i64 (img (flowL c t.k t.x t.y) s.h)] 109 (0, 0))) := E5.out
      generalize w4.setCell ⟨B, 5, none⟩ (.int .i64 (img (flowL c t.k t.x t.y) s.h)) = y at *
      clear E5
      obtain ⟨⟨e0, e1, e2, e3, e4, e5⟩, g0, g1, g2, g3, g4, g5⟩ := wk_cells E5y.out
      obtain ⟨n0, n1⟩ := go_cells2 N5.out
      go_wp2_with fail
      go_end0
      refine ⟨⟨_, rfl⟩, ?_, ?_⟩
      · rw [HDE.out]
        refine ⟨hBb, cv, ?_, ?_⟩
        · have h1 := heap_setCell_same y B 3 _ _ (.int .i64 (P' : Int)) E5y.out
          exact heap_setCell_same _ B 4 _ _ (.int .i64 (I' : Int)) h1
        · exact ownsRow_setCell_other (ownsRow_setCell_other R5.out (fun e => row_notW R5.out E5y.out (by decide) e) _) (fun e => row_notW R5.out E5y.out (by decide) e) _
      · exact Below.setCell (Below.setCell B5.out hBb _) hBb _

end Go.Proofs.Ytnjbihfceckpfaa
