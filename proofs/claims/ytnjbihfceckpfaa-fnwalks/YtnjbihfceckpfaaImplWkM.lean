/-
 Chapter 12, the program's side: the walker in memory; stmt, push, pop, behindLast, openPlaces.
-/
import Derived.Test.YtnjbihfceckpfaaG00Stmt
import Derived.Test.YtnjbihfceckpfaaG20Lists
import Derived.Test.YtnjbihfceckpfaaG26CanSum
import Derived.Test.YtnjbihfceckpfaaRegionLast
import Derived.BigRegion
namespace Go.Proofs.Ytnjbihfceckpfaa
open Go.RowKit
set_option linter.unusedVariables false
set_option linter.unusedSimpArgs false
set_option maxHeartbeats 4000000
set_option maxRecDepth 20000

/-- The walker in memory: block B: calls, procs, client, here, holds. -/
structure WAt (w : World) (base B : Nat) (v : Value) (c : Int) (s : WS) : Prop where
 at_ : base ≤ B
 ex : ∃ cv, w.heap[B]? = some (.cells #[cv, v, .int .i64 c, .int .i64 s.p, .int .i64 s.i, .int .i64 s.h] 109 (0, 0)) ∧ w.ownsRow base 168 3 cv s.op.length (ints (flat3 s.op))

theorem wk_cells {w : World} {b : Nat} {x0 x1 x2 x3 x4 x5 : Value} {T : TypeId} (h : w.heap[b]? = some (.cells #[x0, x1, x2, x3, x4, x5] T (0, 0))) :
 (w.cell? ⟨b, 0, none⟩ = some x0 ∧ w.cell? ⟨b, 1, none⟩ = some x1 ∧ w.cell? ⟨b, 2, none⟩ = some x2 ∧ w.cell? ⟨b, 3, none⟩ = some x3 ∧ w.cell? ⟨b, 4, none⟩ = some x4 ∧ w.cell? ⟨b, 5, none⟩ = some x5) ∧
 w.frozen? ⟨b, 0, none⟩ = false ∧ w.frozen? ⟨b, 1, none⟩ = false ∧ w.frozen? ⟨b, 2, none⟩ = false ∧ w.frozen? ⟨b, 3, none⟩ = false ∧ w.frozen? ⟨b, 4, none⟩ = false ∧ w.frozen? ⟨b, 5, none⟩ = false := by
 refine ⟨⟨?_, ?_, ?_, ?_, ?_, ?_⟩, ?_, ?_, ?_, ?_, ?_, ?_⟩ <;> simp [World.cell?, World.frozen?, h]

theorem WAt.below {w w' : World} {base B : Nat} {v : Value} {c : Int} {s : WS} (h : WAt w base B v c s) (hb : Below w.heap.size w w') : WAt w' base B v c s := by
 obtain ⟨h1, cv, h2, h3⟩ := h
 exact ⟨h1, cv, (hb.block _ (Array.getElem?_eq_some_iff.1 h2).1).trans h2, own_kept h3 hb⟩
theorem WAt.lt {w : World} {base B : Nat} {v : Value} {c : Int} {s : WS} (h : WAt w base B v c s) : B < w.heap.size := by
 obtain ⟨h1, cv, h2, h3⟩ := h
 exact (Array.getElem?_eq_some_iff.1 h2).1

theorem implStmt (ps : List (List Stm)) (c : Int) (s : WS) (base B k : Nat) (v : Value) (w : World) (hs : OkW ps s k) (hv : ReadsP w v ps) (hW : WAt w base B v c s) :
 Calls Try.prog 122 #[.pointer (some ⟨B, 0, none⟩)] w fun e w' => e = .returned (.agg #[.int .i64 (stW ps s.p s.i).k, .int .i64 (stW ps s.p s.i).x, .int .i64 (stW ps s.p s.i).y]) ∧ Below w.heap.size w w' := by
 have hi := hs.i
 have hp := hs.p
 obtain ⟨_, cv, hblk, _⟩ := hW
 obtain ⟨⟨d0, d1, d2, d3, d4, d5⟩, _⟩ := wk_cells hblk
 obtain ⟨ao, cap, rfl, hcc⟩ := id hv
 have hsz : ps[s.p]? = some (ps.getD s.p []) := by simp [List.getD, hp]
 obtain ⟨g, off, pv, rfl, hcell, hR⟩ := hcc s.p _ hsz
 obtain ⟨ao2, cap2, rfl, hc2⟩ := id hR
 have hst : (ps.getD s.p [])[s.i]? = some (stW ps s.p s.i) := by rw [stW_eq hi]; exact List.getElem?_eq_getElem hi
 obtain ⟨g2, off2, rfl, q0, q1, q2⟩ := hc2 s.i _ hst
 clear hsz hst hcc hc2 hs
 generalize stW ps s.p s.i = t at *
 obtain ⟨p, i, op, h⟩ := s
 simp only at *
 generalize ps.getD p [] = ss at *
 have hpl : (p : Int) < (ps.length : Int) := by omega
 have hil : (i : Int) < (ss.length : Int) := by omega
 have zB := (Array.getElem?_eq_some_iff.1 hblk).1
 have z1 := World.block_lt_of_cell? w _ hcell
 have z2 := World.block_lt_of_cell? w _ q0
 simp only at z1 z2
 have HQ0 := q0
 go_enter Try.func122, Try.ntmps122
 go_wp2_with fail
 go_region
 go_wp2
 go_returns
 exact ⟨rfl, by go_grown⟩

theorem flat3_get : ∀ (op : List (Nat × Nat × Int)) (k : Nat) (t : Nat × Nat × Int), op[k]? = some t → (ints (flat3 op))[k * 3]? = some (.int .i64 (t.1 : Int)) ∧ (ints (flat3 op))[k * 3 + 1]? = some (.int .i64 (t.2.1 : Int)) ∧ (ints (flat3 op))[k * 3 + 2]? = some (.int .i64 t.2.2)
 | [], k, t, h => by simp at h
 | u :: op, 0, t, h => by simp at h; subst h; simp [flat3, ints]
 | u :: op, k + 1, t, h => by
  obtain ⟨h1, h2, h3⟩ := flat3_get op k t (by simpa using h)
  have e1 : (k + 1) * 3 = k * 3 + 1 + 1 + 1 := by omega
  have e2 : (k + 1) * 3 + 1 = k * 3 + 1 + 1 + 1 + 1 := by omega
  have e3 : (k + 1) * 3 + 2 = k * 3 + 2 + 1 + 1 + 1 := by omega
  rw [e2, e3, e1]
  exact ⟨by simpa [flat3, ints] using h1, by simpa [flat3, ints] using h2, by simpa [flat3, ints] using h3⟩

/-- An open call in memory. -/
theorem call_cells {w : World} {base g cap : Nat} {op : List (Nat × Nat × Int)} {T : TypeId} (h : w.ownsRow base T 3 (.slice (some ⟨g, 0, none⟩) op.length cap) op.length (ints (flat3 op))) {k : Nat} {t : Nat × Nat × Int} (ht : op[k]? = some t) :
 w.cell? ⟨g, k * 3, none⟩ = some (.int .i64 (t.1 : Int)) ∧ w.cell? ⟨g, k * 3 + 1, none⟩ = some (.int .i64 (t.2.1 : Int)) ∧ w.cell? ⟨g, k * 3 + 2, none⟩ = some (.int .i64 t.2.2) := by
 have hk : k < op.length := (List.getElem?_eq_some_iff.1 ht).1
 obtain ⟨h1, h2, h3⟩ := flat3_get op k t ht
 exact ⟨(h.cellAt (k * 3) (by omega)).trans h1, (h.cellAt (k * 3 + 1) (by omega)).trans h2, (h.cellAt (k * 3 + 2) (by omega)).trans h3⟩

theorem made1P (w : World) (x y : Int) : OwnPl (w.alloc (.cells #[.int .i64 x, .int .i64 y] 56)) w.heap.size (.slice (some ⟨w.heap.size, 0, none⟩) 1 1) [x, y] :=
 ⟨1, rfl, World.ownsRow_lit w #[.int .i64 x, .int .i64 y] 1 (size := 2) (Nat.le_refl _) (by decide) (by simp)⟩

theorem implBehindLast (c : Int) (s : WS) (base B : Nat) (v : Value) (w : World) (hl : s.op.length ≤ 100) (hop : ∀ t ∈ s.op, t.2.1 ≤ 12) (hW : WAt w base B v c s) :
 Calls Try.prog 123 #[.pointer (some ⟨B, 0, none⟩)] w fun e w' => ∃ u, e = .returned u ∧ OwnPl w' w.heap.size u (lastPl s.op) ∧ Below w.heap.size w w' := by
 obtain ⟨_, cv, hblk, hown⟩ := hW
 obtain ⟨⟨d0, d1, d2, d3, d4, d5⟩, _⟩ := wk_cells hblk
 obtain ⟨A, hA⟩ : ∃ A, lastPl s.op = A := ⟨_, rfl⟩
 have HA : Hid (lastPl s.op = A) := hA
 rw [hA]
 clear hA d1 d2 d3 d4 d5
 rcases List.eq_nil_or_concat s.op with hcc | ⟨op', t', hcc⟩
 · rw [hcc] at hown HA
   have hA0 : Hid (A = []) := HA.out.symm
   obtain ⟨ca, cm, cc, rfl⟩ := own_slice hown
   have hcm : cm = 0 := by
    rcases hown.2 with ⟨e, _⟩ | ⟨g, cap, cur, e, _⟩
    · cases e; rfl
    · cases e; rfl
   subst hcm
   go_enter Try.func123, Try.ntmps123
   go_wp2_with fail
   go_ret
   exact ⟨_, rfl, by rw [hA0.out]; exact nilP _ _, Below.refl _ _⟩
 · rw [List.concat_eq_append] at hcc
   rw [hcc] at hown HA hl
   have hj := hop t' (by rw [hcc]; simp)
   have hlen : (op' ++ [t']).length = op'.length + 1 := by simp
   obtain ⟨g, cc, rfl, _, _⟩ := World.ownsRow.form hown (by omega)
   have HAA : Hid (A = [(t'.1 : Int), (t'.2.1 : Int) + 1]) := by
    show A = _
    rw [← HA.out]; unfold lastPl; simp
   obtain ⟨r1, r2, r3⟩ := call_cells hown (k := op'.length) (t := t') (by simp)
   rw [hlen] at hl d0
   obtain ⟨tp, ti, tk⟩ := t'
   simp only at r1 r2 r3 hj HAA
   clear hown hop HA hcc hlen
   generalize op'.length = n at *
   have hw1 : IntKind.i64.wrap ((n : Int) + 1 - 1) = (n : Int) := by rw [show (n : Int) + 1 - 1 = n by omega]; exact IntWalk.i64_in _ (by omega)
   have hw3 : IntKind.i64.wrap (n : Int) = (n : Int) := IntWalk.i64_in _ (by omega)
   have hw4 : IntKind.i64.wrap ((ti : Int) + 1) = (ti : Int) + 1 := IntWalk.i64_in _ (by omega)
   have hn1 : (n : Int) < (n : Int) + 1 := by omega
   have hn0 : ((n : Int) + 1 == 0) = false := by simp; omega
   have z1 := World.block_lt_of_cell? w _ r1
   have zB := (Array.getElem?_eq_some_iff.1 hblk).1
   simp only at z1
   go_enter Try.func123, Try.ntmps123
   go_wp2_with fail
   go_region
   go_wp2_with fail
   go_ret
   refine ⟨_, rfl, ?_, by go_grown⟩
   rw [HAA.out]
   have := (made1P (w.alloc (.cells #[.int .i64 (tp : Int), .int .i64 (ti : Int)] 56)) (tp : Int) ((ti : Int) + 1)).mono (base' := w.heap.size) (by simp)
   simp only [World.size_alloc] at this
   exact this.below (by go_grown)

theorem infoCall : (Try.prog.info? 168).map (fun i => (i.zero, i.size, i.bytes)) = some (some (.agg #[.int .i64 0, .int .i64 0, .int .i64 0]), 3, 24) := by kernel_rfl

theorem row_notW {w : World} {base : Nat} {e T : TypeId} {s n B : Nat} {v : Value} {xs : List Value} {cs : Array Value} {q : Nat × Nat} (h : w.ownsRow base e s v n xs) (hB : w.heap[B]? = some (.cells cs T q)) (hne : e ≠ T) (hk : v.ownBlock = some B) : False := by
 rcases h.2 with ⟨rfl, _⟩ | ⟨g, cap, cur, rfl, _, hg, _⟩
 · cases hk
 · cases hk
   rw [hg] at hB
   exact hne (by injection hB with h1; injection h1)

/-- What lies in other blocks, and is no row of open calls, stays. -/
def KeepT (w w' : World) (B : Nat) : Prop := ∀ (b : Nat) (cs : Array Value) (T : TypeId) (q : Nat × Nat), b ≠ B → 168 ≠ T → w.heap[b]? = some (.cells cs T q) → w'.heap[b]? = some (.cells cs T q)

theorem implPush (c : Int) (s : WS) (base B : Nat) (v : Value) (w : World) (hl : s.op.length ≤ 100) (hbase : base ≤ w.heap.size) (hW : WAt w base B v c s) (q j : Nat) (x : Int) :
 Calls Try.prog 125 #[.pointer (some ⟨B, 0, none⟩), .agg #[.int .i64 q, .int .i64 j, .int .i64 x]] w fun e w' => (∃ y, e = .returned y) ∧ WAt w' base B v c ⟨s.p, s.i, s.op ++ [(q, j, x)], s.h⟩ ∧ Below base w w' ∧ KeepT w w' B := by
 obtain ⟨hB, cv, hblk, hown⟩ := hW
 obtain ⟨ip, hip, hq0, hq1, hq2⟩ := info_parts infoCall
 have zB0 := (Array.getElem?_eq_some_iff.1 hblk).1
 obtain ⟨W, hWW⟩ : ∃ W, w.alloc (.cells #[.int .i64 (q : Int), .int .i64 (j : Int), .int .i64 x] 168) = W := ⟨_, rfl⟩
 have bW : Below w.heap.size w W := by rw [← hWW]; go_grown
 have HK : Hid (W.heap[w.heap.size]? = some (.cells #[.int .i64 (q : Int), .int .i64 (j : Int), .int .i64 x] 168 (0, 0))) := by show _ = _; rw [← hWW]; exact heap_alloc_new w _
 have HSZ : Hid (W.heap.size = w.heap.size + 1) := by show _ = _; rw [← hWW]; simp
 have HBK : Hid _ := (bW.block B zB0).trans hblk
 obtain ⟨⟨d0, d1, d2, d3, d4, d5⟩, f0, _⟩ := wk_cells HBK.out
 obtain ⟨k0, k1, k2⟩ := stmt_cells HK.out
 have HOW : Hid (W.ownsRow base 168 3 cv s.op.length (ints (flat3 s.op))) := own_kept hown bW
 have HLT : Hid (∀ k, cv.ownBlock = some k → base ≤ k) := fun k hk => (hown.lt k hk).1
 have hnew : ∀ {X : World}, X.ownsRow base 168 3 cv s.op.length (ints (flat3 s.op)) → cv.ownBlock = some w.heap.size → False := fun _ hk => by have := (hown.lt _ hk).2; omega
 obtain ⟨ca, cm, cc, rfl⟩ := own_slice hown
 have BW : Hid (Below base w W) := bW.mono hbase
 have BWW : Hid (Below w.heap.size w W) := bW
 have zB : B < W.heap.size := by have := HSZ.out; omega
 have zw : w.heap.size < W.heap.size := by have := HSZ.out; omega
 have hbW : base ≤ W.heap.size := by omega
 clear hblk hown bW
 go_enter Try.func125, Try.ntmps125
 go_wp2_with fail
 refine wp_region_late (S := fun w' => w'.cell? ⟨B, 0, none⟩ = some (.slice ca cm cc) ∧ w'.cell? ⟨w.heap.size, 0, none⟩ = some (.int .i64 (q : Int)) ∧ w'.cell? ⟨w.heap.size, 1, none⟩ = some (.int .i64 (j : Int)) ∧ w'.cell? ⟨w.heap.size, 2, none⟩ = some (.int .i64 x)) (late := fun j => j == 10) (by kernel_rfl) ⟨d0, k0, k1, k2⟩ (fun hHeld => ?_)
 refine wpAnyG_take (i := 0) (oi := ?oip0) (v := .pointer (some ⟨B, 0, none⟩)) ?hip0 (by kernel_rfl) (by kernel_rfl) (by kernel_rfl) (by kernel_rfl) ?hqp0 ?hyp0 hHeld ?hrp0
 case hip0 =>
  simp only [gA, gB, gC]
  rfl
 case hqp0 => exact fun _ _ _ h => h
 case hyp0 => exact Or.inl ⟨by kernel_rfl, fun w hSw => by go_simp⟩
 try simp only [Act.put, gD, gE, gF]
 refine wpAnyG_take (i := 1) (oi := ?oip1) (v := .pointer (some ⟨B, 0, none⟩)) ?hip1 (by kernel_rfl) (by kernel_rfl) (by kernel_rfl) (by kernel_rfl) ?hqp1 ?hyp1 hHeld ?hrp1
 case hip1 =>
  simp only [gA, gB, gC]
  rfl
 case hqp1 => exact fun _ _ _ h => h
 case hyp1 => exact Or.inl ⟨by kernel_rfl, fun w hSw => by go_simp⟩
 try simp only [Act.put, gD, gE, gF]
 refine wpAnyG_take (i := 2) (oi := ?oip2) (v := .pointer (some ⟨B, 0, none⟩)) ?hip2 (by kernel_rfl) (by kernel_rfl) (by kernel_rfl) (by kernel_rfl) ?hqp2 ?hyp2 hHeld ?hrp2
 case hip2 =>
  simp only [gA, gB, gC]
  rfl
 case hqp2 => exact fun _ _ _ h => h
 case hyp2 => exact Or.inl ⟨by kernel_rfl, fun w hSw => by go_simp⟩
 try simp only [Act.put, gD, gE, gF]
 refine wpAnyG_take (i := 3) (oi := ?oip3) (v := .pointer (some ⟨B, 0, none⟩)) ?hip3 (by kernel_rfl) (by kernel_rfl) (by kernel_rfl) (by kernel_rfl) ?hqp3 ?hyp3 hHeld ?hrp3
 case hip3 =>
  simp only [gA, gB, gC]
  rfl
 case hqp3 => exact fun _ _ _ h => h
 case hyp3 => exact Or.inl ⟨by kernel_rfl, fun w hSw => by go_simp⟩
 try simp only [Act.put, gD, gE, gF]
 refine wpAnyG_take (i := 4) (oi := ?oip4) (v := .slice ca cm cc) ?hip4 (by kernel_rfl) (by kernel_rfl) (by kernel_rfl) (by kernel_rfl) ?hqp4 ?hyp4 hHeld ?hrp4
 case hip4 =>
  simp only [gA, gB, gC]
  rfl
 case hqp4 => exact fun _ _ _ h => h
 case hyp4 => exact Or.inl ⟨by kernel_rfl, fun w hSw => by obtain ⟨s1, s2, s3, s4⟩ := hSw; go_simp⟩
 try simp only [Act.put, gD, gE, gF]
 refine wpAnyG_take (i := 5) (oi := ?oip5) (v := .agg #[.int .i64 (q : Int), .int .i64 (j : Int), .int .i64 x]) ?hip5 (by kernel_rfl) (by kernel_rfl) (by kernel_rfl) (by kernel_rfl) ?hqp5 ?hyp5 hHeld ?hrp5
 case hip5 =>
  simp only [gA, gB, gC]
  rfl
 case hqp5 => exact fun _ _ _ h => h
 case hyp5 => exact Or.inl ⟨by kernel_rfl, fun w hSw => by obtain ⟨s1, s2, s3, s4⟩ := hSw; go_simp⟩
 try simp only [Act.put, gD, gE, gF]
 refine wpAnyG_ready (rs := [6]) (by kernel_rfl) (by simp) ?_
 refine (AllReadyG.cons (o := ?oop6) ?hop6 (fun K hK => ?hkp6) AllReadyG.nil)
 case hop6 =>
  simp only [gA, gB, gC]
  rfl
 case hkp6 =>
  go_simp
  try go_wp2_with fail
  have B6 : Hid (Below W.heap.size W (W.alloc (.cells #[.int .i64 (q : Int), .int .i64 (j : Int), .int .i64 x] 168)).drew) := Below.drew (Below.alloc (Below.refl _ _) (Nat.le_refl _) _)
  have L6 : Hid ((W.alloc (.cells #[.int .i64 (q : Int), .int .i64 (j : Int), .int .i64 x] 168)).drew.heap[W.heap.size]? = _) := heap_alloc_new W (.cells #[.int .i64 (q : Int), .int .i64 (j : Int), .int .i64 x] 168)
  generalize (W.alloc (.cells #[.int .i64 (q : Int), .int .i64 (j : Int), .int .i64 x] 168)).drew = w6 at *
  refine hK.out _ _ (Or.inr ⟨(B6.out.cell zB).trans d0, (B6.out.cell zw).trans k0, (B6.out.cell zw).trans k1, (B6.out.cell zw).trans k2⟩) (fun hHeld => ?_)
  replace hHeld := hHeld.resolve_left (by decide)
  clear hK K
  try simp only [Act.put, gD, gE, gF]
  refine wpAnyG_ready (rs := [7]) (by kernel_rfl) (by simp) ?_
  refine (AllReadyG.cons (o := ?oop7) ?hop7 (fun K hK => ?hkp7) AllReadyG.nil)
  case hop7 =>
   simp only [gA, gB, gC]
   rfl
  case hkp7 =>
   refine step_append_lies _ rfl (.tmp 8) (.tmp 10) 105 rfl base 168 ip (.agg #[.int .i64 0, .int .i64 0, .int .i64 0]) 3 24 Try.underlying105 hip hq0 hq1 hq2 rfl (by decide) (.slice ca cm cc) s.op.length (ints (flat3 s.op)) rfl (own_kept HOW.out B6.out) ⟨W.heap.size, 0, none⟩ 1 1 [.int .i64 (q : Int), .int .i64 (j : Int), .int .i64 x] rfl rfl (World.news_of_block L6.out) (ints_oneCell [(q : Int), (j : Int), x]) (by omega) (by unfold maxLen; omega) (by omega) (by have := B6.out.size; omega) _ rfl ?_
   intro g7 cp7 w7 own7 grow7 hat7 hlt7
   have O7 : Hid (w7.ownsRow base 168 3 (.slice (some ⟨g7, 0, none⟩) (s.op.length + 1) cp7) (s.op.length + 1) (ints (flat3 (s.op ++ [(q, j, x)])))) := by (show w7.ownsRow _ _ _ _ _ _; rw [flat3_app, ints_append]; exact own7)
   have E7 : Hid (w7.heap[B]? = some (.cells #[.slice ca cm cc, v, .int .i64 c, .int .i64 s.p, .int .i64 s.i, .int .i64 s.h] 109 (0, 0))) := (grow7.block B (Nat.lt_of_lt_of_le zB B6.out.size) (fun e => by exact row_notW (own_kept HOW.out B6.out) ((B6.out.block B zB).trans HBK.out) (by decide) e.symm)).trans ((B6.out.block B zB).trans HBK.out)
   have K7 : Hid (w7.heap[w.heap.size]? = some (.cells #[.int .i64 (q : Int), .int .i64 (j : Int), .int .i64 x] 168 (0, 0))) := (grow7.block _ (Nat.lt_of_lt_of_le zw B6.out.size) (fun e => by exact hnew (own_kept HOW.out B6.out) e.symm)).trans ((B6.out.block _ zw).trans HK.out)
   have B7 : Hid (Below base w w7) := (BW.out.trans (B6.out.mono hbW)).grown grow7 (by have := B6.out.size; omega) (fun k hk => (HLT.out k hk))
   have KP7 : Hid (∀ (b : Nat) (cs : Array Value) (T : TypeId) (q : Nat × Nat), 168 ≠ T → w.heap[b]? = some (.cells cs T q) → w7.heap[b]? = some (.cells cs T q)) := fun b cs T q' hT hblk => by
    have hb0 := (Array.getElem?_eq_some_iff.1 hblk).1
    have h1 := (B6.out.block b (by omega)).trans ((BWW.out.block b hb0).trans hblk)
    exact (grow7.block b (Array.getElem?_eq_some_iff.1 h1).1 (fun e => row_notW (own_kept HOW.out B6.out) h1 hT e.symm)).trans h1
   obtain ⟨⟨l0, _, _, _, _, _⟩, m0, _⟩ := wk_cells E7.out
   obtain ⟨n0, n1, n2⟩ := stmt_cells K7.out
   clear own7 grow7 hat7 hlt7
   refine hK.out _ _ (Or.inr ⟨l0, n0, n1, n2⟩) (fun hHeld => ?_)
   replace hHeld := hHeld.resolve_left (by decide)
   clear hK K
   try simp only [Act.put, gD, gE, gF]
   refine wpAnyG_ready (rs := [8]) (by kernel_rfl) (by simp) ?_
   refine (AllReadyG.cons (o := ?oop8) ?hop8 (fun K hK => ?hkp8) AllReadyG.nil)
   case hop8 =>
    simp only [gA, gB, gC]
    rfl
   case hkp8 =>
    go_simp
    try go_wp2_with fail
    refine hK.out _ _ (Or.inr hHeld) (fun hHeld => ?_)
    replace hHeld := hHeld.resolve_left (by decide)
    clear hK K
    try simp only [Act.put, gD, gE, gF]
    refine wpAnyG_ready (rs := [9]) (by kernel_rfl) (by simp) ?_
    refine (AllReadyG.cons (o := ?oop9) ?hop9 (fun K hK => ?hkp9) AllReadyG.nil)
    case hop9 =>
     simp only [gA, gB, gC]
     rfl
    case hkp9 =>
     go_simp
     try go_wp2_with fail
     refine hK.out _ _ (Or.inr hHeld) (fun hHeld => ?_)
     replace hHeld := hHeld.resolve_left (by decide)
     clear hK K
     try simp only [Act.put, gD, gE, gF]
     refine wpAnyG_ready (rs := [10]) (by kernel_rfl) (by simp) ?_
     refine (AllReadyG.cons (o := ?oop10) ?hop10 (fun K hK => ?hkp10) AllReadyG.nil)
     case hop10 =>
      simp only [gA, gB, gC]
      rfl
     case hkp10 =>
      go_simp
      try go_wp2_with fail
      refine hK.out _ _ (Or.inl rfl) (fun _ => ?_)
      clear hK K
      try simp only [Act.put, gD, gE, gF]
      refine wpAnyG_done (by kernel_rfl) ?_ _
      go_wp2
      go_end0
      refine ⟨⟨_, rfl⟩, ⟨hB, .slice (some ⟨g7, 0, none⟩) (s.op.length + 1) cp7, ?_, ?_⟩, ?_, ?_⟩
      · exact heap_setCell_same w7 B 0 _ _ (.slice (some ⟨g7, 0, none⟩) (s.op.length + 1) cp7) E7.out
      · have := ownsRow_setCell_other O7.out (a := ⟨B, 0, none⟩) (fun e => row_notW O7.out E7.out (by decide) e) (.slice (some ⟨g7, 0, none⟩) (s.op.length + 1) cp7)
        rw [show (s.op ++ [(q, j, x)]).length = s.op.length + 1 by simp]
        exact this
      · exact Below.setCell B7.out hB _
      · intro b cs T q' hb hT hblk
        rw [Below.heap_setCell w7 ⟨B, 0, none⟩ _ b (fun e => hb e)]
        exact KP7.out b cs T q' hT hblk

theorem own_capI {w : World} {base : Nat} {e : TypeId} {s g n cap : Nat} {xs : List Value} (h : w.ownsRow base e s (.slice (some ⟨g, 0, none⟩) n cap) n xs) : n ≤ cap := by
 rcases h.2 with ⟨e, _⟩ | ⟨g', cap', cur, e, _, _, hnc, _⟩
 · cases e
 · cases e; exact hnc

theorem own_shortI {w : World} {base : Nat} {e : TypeId} {s g n m cap : Nat} {xs ys : List Value} (h : w.ownsRow base e s (.slice (some ⟨g, 0, none⟩) (n + m) cap) (n + m) (xs ++ ys)) (hx : xs.length = n * s) :
 w.ownsRow base e s (.slice (some ⟨g, 0, none⟩) n cap) n xs := by
 rcases h.2 with ⟨e, _⟩ | ⟨g', cap', cur, e, k1, k2, k3, k4, k5, k6⟩
 · cases e
 · cases e
   refine ⟨hx, .inr ⟨g, cap, cur, rfl, k1, k2, by omega, k4, k5, ?_⟩⟩
   have e2 : cur.toList.take (n * s) = (cur.toList.take ((n + m) * s)).take (n * s) := by rw [List.take_take, Nat.min_eq_left (Nat.mul_le_mul_right _ (by omega))]
   rw [e2, k6, List.take_append_of_le_length (by omega), List.take_of_length_le (by omega)]

theorem implPop (c : Int) (s : WS) (base B : Nat) (v : Value) (w : World) (op' : List (Nat × Nat × Int)) (t : Nat × Nat × Int) (hop : s.op = op' ++ [t]) (hl : op'.length ≤ 100) (hbase : base ≤ w.heap.size) (hW : WAt w base B v c s) :
 Calls Try.prog 129 #[.pointer (some ⟨B, 0, none⟩)] w fun e w' => e = .returned (.agg #[.int .i64 t.1, .int .i64 t.2.1, .int .i64 t.2.2]) ∧ WAt w' base B v c ⟨s.p, s.i, op', s.h⟩ ∧ Below base w w' ∧ KeepT w w' B := by
 obtain ⟨hB, cv, hblk, hown⟩ := hW
 rw [hop] at hown
 have hlen : (op' ++ [t]).length = op'.length + 1 := by simp
 obtain ⟨g, cc, rfl, _, _⟩ := World.ownsRow.form hown (by omega)
 obtain ⟨r1, r2, r3⟩ := call_cells hown (k := op'.length) (t := t) (by simp)
 rw [hlen] at hblk hown
 have hcap := own_capI hown
 have hsh := hown
 rw [flat3_app, ints_append] at hsh
 have HSH : Hid _ := own_shortI hsh (by rw [ints_length, flat3_len]; omega)
 have HNE : Hid _ := fun h => row_notW hown hblk (by decide) h
 have zB := (Array.getElem?_eq_some_iff.1 hblk).1
 have zg := World.block_lt_of_cell? w _ r1
 simp only at zg
 obtain ⟨tp, ti, tk⟩ := t
 simp only at r1 r2 r3
 have HLE : Hid (op'.length ≤ 100) := hl
 obtain ⟨⟨d0, d1, d2, d3, d4, d5⟩, f0, _⟩ := wk_cells hblk
 have HBK : Hid _ := hblk
 clear hown hsh hop hlen hblk
 generalize hnn : op'.length = n at *
 have HNN : Hid (op'.length = n) := hnn
 clear hnn
 have hw1 : IntKind.i64.wrap ((n : Int) + 1 - 1) = (n : Int) := by rw [show (n : Int) + 1 - 1 = n by omega]; exact IntWalk.i64_in _ (by omega)
 have hw3 : IntKind.i64.wrap (n : Int) = (n : Int) := IntWalk.i64_in _ (by omega)
 have hn1 : (n : Int) < (n : Int) + 1 := by omega
 have hnc : n ≤ cc := by omega
 go_enter Try.func129, Try.ntmps129
 go_wp2_with fail
 go_returns
 refine ⟨rfl, ⟨hB, .slice (some ⟨g, 0, none⟩) n cc, ?_, ?_⟩, ?_, ?_⟩
 · rw [old_block (by simp; omega), old_block (by simp; omega)]
   exact heap_setCell_same w B 0 _ _ (.slice (some ⟨g, 0, none⟩) n cc) HBK.out
 · have h1 := ownsRow_setCell_other HSH.out (a := ⟨B, 0, none⟩) (fun e => HNE.out e) (.slice (some ⟨g, 0, none⟩) n cc)
   show World.ownsRow _ _ _ _ _ op'.length _
   rw [HNN.out]
   exact own_kept h1 (by go_grown)
 · exact Below.alloc (Below.alloc (Below.setCell (Below.refl _ _) hB _) (by simp; omega) _) (by simp; omega) _
 · intro b cs T q' hb hT hblk
   have hb0 := (Array.getElem?_eq_some_iff.1 hblk).1
   rw [old_block (by simp; omega), old_block (by simp; omega), Below.heap_setCell w ⟨B, 0, none⟩ _ b (fun e => hb e)]
   exact hblk

end Go.Proofs.Ytnjbihfceckpfaa
