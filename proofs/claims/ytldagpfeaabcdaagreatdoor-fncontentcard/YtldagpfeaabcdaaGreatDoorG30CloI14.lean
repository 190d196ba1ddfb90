/-
 Put together out of: Ren14, Need14, CloI14.
-/
import Derived.Test.YtldagpfeaabcdaaGreatDoorOrd14
import Derived.Defers
import Derived.Recover
import Derived.WalkLawsBesides
namespace Go.Proofs.YtldagpfeaabcdaaGreatDoor
open Go.RowKit
set_option linter.unusedVariables false
set_option linter.unusedSimpArgs false
set_option maxHeartbeats 4000000
set_option maxRecDepth 20000
theorem sliceIndexAt (xs : List Int) (n : Int) (v : Value) (w : World) (hl : xs.length ≤ maxLen) (hm : n ∈ xs) (hv : jf8 w v (ints xs)) :
 Calls Tryz.prog 77 #[v, .int .i64 n] w fun e w' => e = .returned (.int .i64 (jh8 xs n : Int)) ∧ w = w' := by
 unfold maxLen at hl
 obtain ⟨ao, cap, rfl, hc⟩ := hv
 rw [jb8]
 have h1 := jj9 hm
 have h2 := jm4 hm
 have h3 := @pos14_before xs n
 obtain ⟨B, hB⟩ : ∃ B, jh8 xs n = B := ⟨_, rfl⟩
 rw [hB] at h1 h2 ⊢
 have H3 : Hid (∀ j, j < B → xs[j]? ≠ some n) := fun j hj => h3 (by rw [hB]; exact hj)
 have H2 : Hid _ := h2
 clear hB h2 h3
 go_enter Tryz.func77, Tryz.ntmps77
 go_wp2
 go_loopw [8] (fun i wr => ∃ k : Nat, k ≤ B ∧ i = .int .i64 k ∧ w = wr) (fun i _ => xs.length - (intOf i).toNat)
 case atStart => exact ⟨0, Nat.zero_le _, rfl, rfl⟩
 case round =>
  obtain ⟨k, hk, rfl, rfl⟩ := hrel
  have hlt : k < xs.length := by omega
  have hlt' : (k : Int) < (xs.length : Int) := by omega
  obtain ⟨g, off, rfl, hg⟩ := hc k (.int .i64 xs[k]) (by simp [ints, hlt])
  have h5 : Hid (xs[k]? = some xs[k]) := List.getElem?_eq_getElem hlt
  clear hc
  generalize xs[k] = x at *
  by_cases hx : x = n
  · have hkB : Hid (k = B) := by
     show k = B
     rcases Nat.lt_or_ge k B with h | h
     · exact absurd (h5.out.trans (by rw [hx])) (H3.out k h)
     · omega
    have hx' : (n == x) = true := by simpa using hx.symm
    clear hx
    go_wp2
    go_ret
    obtain rfl := hkB.out
    exact ⟨rfl, rfl⟩
  · have hx' : (n == x) = false := by simpa using fun h => hx h.symm
    have hkB : k ≠ B := fun h => hx (by have := h5.out; rw [h, H2.out] at this; exact (Option.some.inj this).symm)
    clear hx
    go_wp2
    go_roundw
    case rel => exact ⟨k + 1, by omega, by go_num, by trivial⟩
    case measure => simp [intOf]; omega
theorem ren14_yes {R : List Int} {s : Stm} (h : s.k = 8) : je5 R s = ⟨s.k, s.x, (jh8 R s.y : Int)⟩ := if_pos h
theorem ren14_no {R : List Int} {s : Stm} (h : ¬ s.k = 8) : je5 R s = s := if_neg h
theorem renumbered (p : List Stm) (R : List Int) (u ov : Value) (w : World) (h0 : 0 < p.length) (hl : p.length ≤ 100) (hRl : R.length ≤ 100) (hin : ∀ s ∈ p, s.k = 8 → s.y ∈ R) (hu : jk5 w u p) (hov : jf8 w ov (ints R)) :
 Calls Tryz.prog 57 #[.agg #[u], ov] w fun e w' => ∃ g cap, e = .returned (.agg #[.slice (some ⟨g, 0, none⟩) p.length cap]) ∧
  w'.ownsRow w.heap.size 52 3 (.slice (some ⟨g, 0, none⟩) p.length cap) p.length (ja3 (p.map (je5 R))) ∧ Below w.heap.size w w' := by
 obtain ⟨W0, hW0⟩ : ∃ W0, (w.alloc (.cells #[u] 63)).alloc (.cells #[.slice none 0 0] 63) = W0 := ⟨_, rfl⟩
 have b0 : Below w.heap.size w W0 := by rw [← hW0]; go_grown
 have s0 : W0.heap.size = w.heap.size + 2 := by rw [← hW0]; simp
 have H0 : W0.heap[w.heap.size]? = some (.cells #[u] 63 (0, 0)) := by rw [← hW0, ja2 (by simp)]; exact heap_alloc_new w _
 have H1 : W0.heap[w.heap.size + 1]? = some (.cells #[.slice none 0 0] 63 (0, 0)) := by
  rw [← hW0]
  have := heap_alloc_new (w.alloc (.cells #[u] 63)) (.cells #[.slice none 0 0] 63)
  simpa using this
 have hcl := cloneStmts p u W0 h0 hl (jd0 hu b0)
 have c0 := (ja4 H0).1
 have hov0 := hov
 obtain ⟨oa, ocap, rfl, _⟩ := hov
 have HW0 : Hid _ := hW0
 clear hW0
 obtain ⟨ua, uc, rfl, _⟩ := hu
 go_enter Tryz.func57, Tryz.ntmps57
 go_wp2_with fail
 rw [HW0.out]
 clear HW0
 go_wp2_with fail
 go_at_call 76
 refine hcl.mono ?_
 rintro e w1 ⟨g, cap, rfl, own1, b1⟩
 have s1 := b1.size
 have hg1 := (own1.lt g rfl)
 have HB1 : Hid (w1.heap[w.heap.size + 1]? = some (.cells #[.slice none 0 0] 63 (0, 0))) := (b1.block _ (by omega)).trans H1
 have L1 : Below w.heap.size w w1 := b0.trans (b1.mono (by omega))
 have hp0 := qc8 (je5 R) p
 have own2 : w1.ownsRow (w.heap.size + 2) 52 3 (.slice (some ⟨g, 0, none⟩) p.length cap) p.length (ja3 (jg8 (je5 R) p 0)) := by rw [hp0, ← s0]; exact own1
 obtain ⟨hg2, hg3⟩ := hg1
 have hgw : w.heap.size + 2 ≤ g := by omega
 clear hcl own1 hp0 H0 H1 c0 hg2 hg3 b0 b1 s0 s1
 have hN : ∃ N, p.length = N := ⟨_, rfl⟩
 obtain ⟨N, hN⟩ := hN
 have HN : Hid _ := hN
 rw [hN] at hl own2 ⊢
 clear hN
 go_wp2
 go_loopw [13] (fun i wr => ∃ j : Nat, j ≤ N ∧ i = .int .i64 j ∧ wr.ownsRow (w.heap.size + 2) 52 3 (.slice (some ⟨g, 0, none⟩) N cap) N (ja3 (jg8 (je5 R) p j)) ∧ wr.heap[w.heap.size + 1]? = some (.cells #[.slice none 0 0] 63 (0, 0)) ∧ Below w.heap.size w wr) (fun i _ => N - (intOf i).toNat)
 case atStart => exact ⟨0, Nat.zero_le _, rfl, own2, HB1.out, L1⟩
 case round =>
  obtain ⟨j, hj, rfl, own, B1, hb⟩ := hrel
  clear own2 HB1 L1
  have hXl := (Array.getElem?_eq_some_iff.1 B1).1
  by_cases hlt : j < N
  · have hlt' : (j : Int) < (N : Int) := by omega
    have hjp : j < p.length := by rw [HN.out]; exact hlt
    have hget := jy1 (je5 R) p j hjp
    obtain ⟨e0, e1, e2⟩ := jk7 _ j _ hget
    have q0 := (own.cellAt (j * 3) (by omega)).trans e0
    have q1 := (own.cellAt (j * 3 + 1) (by omega)).trans e1
    have q2 := (own.cellAt (j * 3 + 2) (by omega)).trans e2
    have hset := fun y => jo1 (jg8 (je5 R) p j) j p[j] y hget
    have hsuc := ju3 (je5 R) p j hjp
    have hsam := qe2 (je5 R) p j hjp
    have hyes := @ren14_yes R p[j]
    have hno := @ren14_no R p[j]
    have hmem := hin p[j] (List.getElem_mem hjp)
    have hgl := (own.lt g rfl).2
    generalize p[j] = s at *
    obtain ⟨sk, sx, sy⟩ := s
    simp only at *
    have HSET : Hid _ := hset
    have HSUC : Hid _ := hsuc
    have HSAM : Hid _ := hsam
    have HYES : Hid _ := hyes
    have HNO : Hid _ := hno
    have bA : Below wr.heap.size wr (wr.alloc (.cells #[.int .i64 sk, .int .i64 sx, .int .i64 sy] 52)) := by go_grown
    have HBA : Hid (Below w.heap.size w (wr.alloc (.cells #[.int .i64 sk, .int .i64 sx, .int .i64 sy] 52))) := hb.trans (bA.mono hb.size)
    have HOA : Hid ((wr.alloc (.cells #[.int .i64 sk, .int .i64 sx, .int .i64 sy] 52)).ownsRow (w.heap.size + 2) 52 3 (.slice (some ⟨g, 0, none⟩) N cap) N (ja3 (jg8 (je5 R) p j))) := jc0 own bA
    have HXA : Hid _ := (bA.block _ hXl).trans B1
    have hq2 := (bA.cell (p := ⟨g, j * 3 + 2, none⟩) hgl).trans q2
    clear hset hsuc hsam hyes hno hget e0 e1 e2
    by_cases hk : sk = 8
    · subst hk
      have hmem := hmem rfl
      have hpl := jj9 hmem
      have hidx := sliceIndexAt R sy _ (wr.alloc (.cells #[.int .i64 8, .int .i64 sx, .int .i64 sy] 52)) (by unfold maxLen; omega) hmem (jc7 hov0 HBA.out)
      have HY : Hid _ := HYES.out rfl
      clear HYES HNO HSAM hmem bA
      go_wp2_with fail
      go_at_call 77
      refine hidx.mono ?_
      rintro e w2 ⟨rfl, rfl⟩
      clear hidx
      obtain ⟨P, hP⟩ : ∃ P, jh8 R sy = P := ⟨_, rfl⟩
      have HP : Hid _ := hP
      rw [hP] at hpl ⊢
      clear hP
      have f2 := World.ownsRow.frozenAt HOA.out (j * 3 + 2)
      generalize wr.alloc (.cells #[.int .i64 8, .int .i64 sx, .int .i64 sy] 52) = wA at *
      have HST : Hid ((wA.setCell ⟨g, j * 3 + 2, none⟩ (.int .i64 (P : Int))).ownsRow (w.heap.size + 2) 52 3 (.slice (some ⟨g, 0, none⟩) N cap) N ((ja3 (jg8 (je5 R) p j)).set (j * 3 + 2) (.int .i64 (P : Int)))) := (World.ownsRow.stored HOA.out (j * 3 + 2) (.int .i64 (P : Int))).1
      have HXS : Hid ((wA.setCell ⟨g, j * 3 + 2, none⟩ (.int .i64 (P : Int))).heap[w.heap.size + 1]? = some (.cells #[.slice none 0 0] 63 (0, 0))) := (Below.heap_setCell wA ⟨g, j * 3 + 2, none⟩ (.int .i64 (P : Int)) _ (by simp; omega)).trans HXA.out
      have HBS : Hid (Below w.heap.size w (wA.setCell ⟨g, j * 3 + 2, none⟩ (.int .i64 (P : Int)))) := HBA.out.setCell (by simp; omega) _
      go_wp2
      go_roundw
      case rel =>
       refine ⟨j + 1, by omega, by go_num, ?_, HXS.out, HBS.out⟩
       rw [HSUC.out, HY.out, HP.out]
       have h5 := HST.out
       rw [HSET.out (P : Int)] at h5
       exact h5
      case measure => simp [intOf]; omega
    · have hk' : (sk == 8) = false := by simpa using hk
      have HE : Hid _ := HSAM.out (HNO.out hk)
      clear HYES HNO HSAM hmem bA hk
      go_wp2
      go_roundw
      case rel => exact ⟨j + 1, by omega, by go_num, by rw [HE.out]; exact HOA.out, HXA.out, HBA.out⟩
      case measure => simp [intOf]; omega
  · have hjj : j = N := by omega
    subst hjj
    have hall := qf4 (je5 R) p
    rw [HN.out] at hall
    rw [hall] at own
    obtain ⟨d1, f1⟩ := ja4 B1
    have d2 := (ja4 (jg1 B1 (.slice (some ⟨g, 0, none⟩) j cap))).1
    have HO : Hid ((wr.setCell ⟨w.heap.size + 1, 0, none⟩ (.slice (some ⟨g, 0, none⟩) j cap)).ownsRow w.heap.size 52 3 (.slice (some ⟨g, 0, none⟩) j cap) j (ja3 (p.map (je5 R)))) := jc4 (ownsRow_setCell_other own (fun e => by have := Option.some.inj e; simp at this; omega) _) (by omega)
    have HB : Hid (Below w.heap.size w (wr.setCell ⟨w.heap.size + 1, 0, none⟩ (.slice (some ⟨g, 0, none⟩) j cap))) := hb.setCell (by simp) _
    clear own hall
    go_wp2
    refine bodyPost_ret (v := .agg #[.slice (some ⟨g, 0, none⟩) j cap]) (by simp [results, Tryz.results57, go_sem, d2]) rfl ?_
    refine ⟨g, cap, ?_, ?_, HB.out⟩
    · rw [HN.out]
    · rw [HN.out]; exact HO.out
end Go.Proofs.YtldagpfeaabcdaaGreatDoor
namespace Go.Proofs.YtldagpfeaabcdaaGreatDoor
open Go.RowKit
set_option linter.unusedVariables false
set_option linter.unusedSimpArgs false
set_option maxHeartbeats 4000000
set_option maxRecDepth 20000
def jm0 : Value := .iface 9 (.string ⟨#[110, 111, 116, 32, 97, 115, 32, 116, 111, 108, 100]⟩)
theorem need_yes (w : World) : Calls Tryz.prog 55 #[.bool true] w fun e w' => e = .returned (.tuple #[]) ∧ w = w' := by
 go_enter Tryz.func55, Tryz.ntmps55
 go_wp2
 go_end0
 exact ⟨rfl, rfl⟩
theorem need_no (w : World) : Calls Tryz.prog 55 #[.bool false] w fun e w' => e = .panicked [{ v := jm0, recovered := false }] ∧ w = w' := by
 go_enter Tryz.func55, Tryz.ntmps55
 go_wp2
 exact ⟨rfl, rfl, rfl⟩
theorem jz0 (p : Addr) (x : Value) (older : List PanicEntry) (w : World) (hc : w.cell? p = some x) (hz : w.frozen? p = false) :
 CallsD Tryz.prog 53 #[.pointer (some p)] (.panicking ({ v := jm0, recovered := false } :: older)) w fun e u' w' =>
  e = .returned (.tuple #[]) ∧ u' = .panicking ({ v := jm0, recovered := true } :: older) ∧ w' = w.setCell p (.bool false) := by
 refine callsD_of_wpS Tryz.func53 rfl fun c₀ cs hu => ?_
 apply wpS_region
 simp [wpOpsS, go_sem, recoverD, hu, Tryz.ntmps53, Exit.thenS, jm0, hc, hz]
 simp [bodyPostS, results, Tryz.results53]
theorem qe3 (p : Addr) (x : Value) (w : World) (hc : w.cell? p = some x) (hz : w.frozen? p = false) :
 CallsD Tryz.prog 53 #[.pointer (some p)] .returning w fun e u' w' =>
  e = .returned (.tuple #[]) ∧ u' = .returning ∧ w' = w.setCell p (.bool true) := by
 refine callsD_of_wpS Tryz.func53 rfl fun c₀ cs hu => ?_
 apply wpS_region
 simp [wpOpsS, go_sem, recoverD, hu, Tryz.ntmps53, Exit.thenS, hc, hz]
 cases c₀
 simp_all [bodyPostS, results, Tryz.results53]
theorem jc8 {a w w' : World} {B : Nat} (h : Below B a w) (k : Below w.heap.size w w') (hB : B ≤ w.heap.size) : Below B a w' := h.trans (k.mono hB)
end Go.Proofs.YtldagpfeaabcdaaGreatDoor
namespace Go.Proofs.YtldagpfeaabcdaaGreatDoor
open Go.RowKit
set_option linter.unusedVariables false
set_option linter.unusedSimpArgs false
set_option maxHeartbeats 4000000
set_option maxRecDepth 20000
theorem Apart13.snoc {us : List Value} {x : Value} (h : Apart13 us) (hf : ∀ y ∈ us, ∀ k, y.ownBlock = some k → x.ownBlock ≠ some k) : Apart13 (us ++ [x]) := by
 intro a b y z k hne hy hz hk hk'
 have sp : ∀ {i : Nat} {a : Value}, (us ++ [x])[i]? = some a → (i < us.length ∧ us[i]? = some a) ∨ (i = us.length ∧ a = x) := by
  intro i a h
  by_cases hi : i < us.length
  · rw [List.getElem?_append_left hi] at h
    exact .inl ⟨hi, h⟩
  · have h9 := (List.getElem?_eq_some_iff.1 h).1
    simp at h9
    have hi' : i = us.length := by omega
    subst hi'
    simp at h
    exact .inr ⟨rfl, h.symm⟩
 rcases sp hy with ⟨_, h1⟩ | ⟨e1, rfl⟩
 · rcases sp hz with ⟨_, h2⟩ | ⟨e2, rfl⟩
   · exact h a b y z k hne h1 h2 hk hk'
   · exact hf y (List.mem_of_getElem? h1) k hk hk'
 · rcases sp hz with ⟨_, h2⟩ | ⟨e2, rfl⟩
   · exact hf z (List.mem_of_getElem? h2) k hk' hk
   · omega
theorem clo14_get {ps : List (List Stm)} {R : List Int} {k : Nat} (h : k < R.length) (hO : O14 ps R) : ∃ h2 : R[k].toNat < ps.length, (jf7 ps R)[k]? = some (ps[R[k].toNat].map (je5 R)) := by
 obtain ⟨h0, h1⟩ := hO.inn R[k] (List.getElem_mem h)
 obtain ⟨h2, h3⟩ := jv5 h0 h1
 refine ⟨h2, ?_⟩
 unfold jf7
 rw [List.getElem?_map, List.getElem?_eq_getElem h]
 simp only [Option.map_some, h3]
theorem jr9 (ps : List (List Stm)) (R : List Int) : (jf7 ps R).length = R.length := by simp [jf7]
theorem closureOf (ps : List (List Stm)) (i : Int) (v : Value) (w : World) (hl : ps.length ≤ maxLen) (hp : ∀ p ∈ ps, p.length ≤ maxLen) (hok : hasB ps i = true) (hv : jb5 w v ps) :
 Calls Tryz.prog 31 #[.agg #[v], .int .i64 i] w fun e w' => ∃ u us, e = .returned (.agg #[u]) ∧ Own13 w' w.heap.size u us (jf7 ps (jg4 ps i)) ∧ Below w.heap.size w w' := by
 obtain ⟨i0, hi, hz0, hz1, hz2⟩ := info_parts qa3
 obtain ⟨ao, vcap, rfl, hcv⟩ := id hv
 obtain ⟨W0, hW0⟩ : ∃ W0, (w.alloc (.cells #[.slice ao ps.length vcap] 26)).alloc (.cells #[.slice none 0 0] 26) = W0 := ⟨_, rfl⟩
 have b0 : Below w.heap.size w W0 := by rw [← hW0]; go_grown
 have s0 : W0.heap.size = w.heap.size + 2 := by rw [← hW0]; simp
 have H0 : W0.heap[w.heap.size]? = some (.cells #[.slice ao ps.length vcap] 26 (0, 0)) := by rw [← hW0, ja2 (by simp)]; exact heap_alloc_new w _
 have H1 : W0.heap[w.heap.size + 1]? = some (.cells #[.slice none 0 0] 26 (0, 0)) := by
  rw [← hW0]
  have := heap_alloc_new (w.alloc (.cells #[.slice ao ps.length vcap] 26)) (.cells #[.slice none 0 0] 26)
  simpa using this
 have hhp := hasProc ps i _ W0 hl hp (ja0 hv b0)
 rw [hok] at hhp
 have hco := fun W hW => comingOrder ps i (.slice ao ps.length vcap) W hok hW
 obtain ⟨hOr, _⟩ := jn0 hok
 obtain ⟨R, hR⟩ : ∃ R, jg4 ps i = R := ⟨_, rfl⟩
 rw [hR] at hco hOr ⊢
 have hok1 : ja5 ps = true := by unfold hasB at hok; simp only [Bool.and_eq_true] at hok; exact hok.1
 obtain ⟨h4, h1, hpr⟩ := jc1 hok1
 have hRl := hOr.o.len
 have HCL := jr9 ps R
 obtain ⟨C, hC⟩ : ∃ C, jf7 ps R = C := ⟨_, rfl⟩
 have HC : Hid (∀ k (h : k < R.length), ∃ h2 : R[k].toNat < ps.length, C[k]? = some (ps[R[k].toNat].map (je5 R))) := fun k h => hC ▸ clo14_get h hOr.o
 rw [hC] at HCL ⊢
 have HCL : Hid _ := HCL
 clear hC
 have HW0 : Hid _ := hW0
 have HHV : Hid _ := hcv
 have c0 := (ja4 H0).1
 clear hW0 hR hok hok1 hcv
 go_enter Tryz.func31, Tryz.ntmps31
 go_wp2_with fail
 rw [HW0.out]
 clear HW0
 go_wp2_with fail
 go_at_call 42
 refine hhp.mono ?_
 rintro e w1 ⟨rfl, b1⟩
 have s1 := b1.size
 have H10 := (b1.block w.heap.size (by omega)).trans H0
 have H11 := (b1.block (w.heap.size + 1) (by omega)).trans H1
 have L1 : Below w.heap.size w w1 := jc8 b0 b1 (by omega)
 have hco1 := hco w1 (ja0 hv L1)
 have c1 := (ja4 H10).1
 clear hhp c0 H0 H1 b0 b1 hco hv
 go_wp2_with fail
 go_at_call 55
 refine (need_yes w1).mono ?_
 rintro e w1' ⟨rfl, rfl⟩
 go_wp2_with fail
 go_at_call 56
 refine hco1.mono ?_
 rintro e w2 ⟨go, co, rfl, own2, b2⟩
 have s2 := b2.size
 have H20 := (b2.block w.heap.size (by omega)).trans H10
 have H21 := (b2.block (w.heap.size + 1) (by omega)).trans H11
 have L2 : Below w.heap.size w w2 := jc8 L1 b2 (by omega)
 have hgo := own2.lt go rfl
 clear hco1 c1 H10 H11
 obtain ⟨n, hn⟩ : ∃ n, R.length = n := ⟨_, rfl⟩
 have HN : Hid _ := hn
 rw [hn] at own2 hRl ⊢
 clear hn
 go_wp2_with (refine wpList_make_full _ rfl (.tmp 17) (.tmp 17) 24 rfl w2.heap.size 63 i0 (.agg #[.slice none 0 0]) 1 Tryz.underlying24 hi hz0 hz1 .i64 .i64 _ _ n rfl rfl rfl rfl (by rw [hz2]; omega) (by unfold maxLen; omega) (Nat.le_refl _) ?_; intro w3 own3 grow3)
 have zl : (madeCells (Value.agg #[.slice none 0 0]).cells (n * 1)).toList.length = n := by simpa using own3.1
 generalize (madeCells (Value.agg #[.slice none 0 0]).cells (n * 1)).toList = zs at own3 zl
 have b3 : Below w2.heap.size w2 w3 := (Below.refl _ _).grown grow3 (Nat.le_refl _) (by simp)
 have s3 : w2.heap.size + 1 ≤ w3.heap.size := by have := (own3.lt w2.heap.size rfl).2; omega
 have L3 : Below w.heap.size w w3 := jc8 L2 b3 (by omega)
 have H30 := (b3.block w.heap.size (by omega)).trans H20
 have H31 := (b3.block (w.heap.size + 1) (by omega)).trans H21
 have own2' := jc0 own2 b3
 clear own2 b3 H20 H21 L2 grow3 L1 b2
 obtain ⟨G, hG⟩ : ∃ G, w2.heap.size = G := ⟨_, rfl⟩
 rw [hG] at own3 s3 hgo ⊢
 clear hG
 obtain ⟨hgo1, hgo2⟩ := hgo
 have hgG : w.heap.size + 2 ≤ G := by omega
 have hgoG : go < G := hgo2
 have hgoW : w.heap.size + 2 ≤ go := by omega
 clear hgo1 hgo2 s0 s1 s2
 go_loopw [21] (fun q wr => ∃ (k : Nat) (us : List Value), k ≤ n ∧ us.length = k ∧ q = .int .i64 k ∧ wr.ownsRow G 63 1 (.slice (some ⟨G, 0, none⟩) n n) n (us ++ zs.drop k) ∧ Below w.heap.size w wr ∧ G + 1 ≤ wr.heap.size ∧
  (∀ (j : Nat) (u : Value) (p : List Stm), us[j]? = some u → C[j]? = some p → wr.ownsRow (G + 1) 52 3 u p.length (ja3 p)) ∧ Apart13 us ∧ wr.ownsRow w1.heap.size 2 1 (.slice (some ⟨go, 0, none⟩) n co) n (ints R) ∧ wr.heap[w.heap.size]? = some (.cells #[.slice ao ps.length vcap] 26 (0, 0)) ∧ wr.heap[w.heap.size + 1]? = some (.cells #[.slice none 0 0] 26 (0, 0))) (fun q _ => n - (intOf q).toNat)
 case atStart => exact ⟨0, [], Nat.zero_le _, rfl, rfl, by simpa using own3, L3, s3, fun j u p h => by simp at h, fun a b y z k hne hy => by simp at hy, own2', H30, H31⟩
 case round =>
  obtain ⟨k, us, hk, hus, rfl, hown, hb, hsz, hin, hap, hord, B0, B1⟩ := hrel
  clear own3 L3 own2' H30 H31
  by_cases hlt : k < n
  · have hlt' : (k : Int) < (n : Int) := by omega
    have hkR : k < R.length := by rw [HN.out]; exact hlt
    obtain ⟨htl, hcg⟩ := HC.out k hkR
    obtain ⟨hx0, hx1⟩ := hOr.o.inn R[k] (List.getElem_mem hkR)
    have hcl := hOr.cl R[k] (List.getElem_mem hkR)
    obtain ⟨_, hge⟩ := jv5 hx0 hx1
    rw [hge] at hcl
    have hpo := hpr _ (List.getElem_mem htl)
    have hpl := jj5 hpo.1
    have hp1 := (jh0 hpo.1).1
    obtain ⟨gv, off, u, rfl, q0, r0⟩ := HHV.out (R[k].toNat) ps[R[k].toNat] (by simp)
    have q1 := (hb.cell (World.block_lt_of_cell? w _ q0)).trans q0
    have r1 := jd0 r0 hb
    have e0 : wr.cell? ⟨go, k, none⟩ = some (.int .i64 R[k]) := by
     rw [hord.cellAt k (by omega)]
     simp [ints]
    obtain ⟨c0, _⟩ := ja4 B0
    have hxt : ((R[k].toNat : Nat) : Int) = R[k] := by omega
    obtain ⟨t, ht⟩ : ∃ t : Nat, R[k].toNat = t := ⟨_, rfl⟩
    have hxl' : (t : Int) < (ps.length : Int) := by omega
    have hren := renumbered ps[R[k].toNat] R u (.slice (some ⟨go, 0, none⟩) n co) wr (by omega) (by omega) (by rw [HN.out]; omega) hcl r1 (jc5 hord)
    have hset := set_snoc us zs
    generalize ps[R[k].toNat] = p at *
    rw [ht] at hxt q1
    rw [← hxt] at e0
    have HCG : Hid _ := hcg
    have HIN : Hid _ := hin
    have HAP : Hid _ := hap
    have HOR : Hid _ := hord
    have HB0 : Hid _ := B0
    have HB1 : Hid _ := B1
    clear hge hx0 hx1 hxt ht hpo q0 r0 hcl htl hcg hin hap hord B0 B1 HC hpr HHV
    obtain ⟨ua, uc, rfl, _⟩ := r1
    go_wp2_with fail
    go_at_call 57
    refine hren.mono ?_
    rintro e w5 ⟨g5, c5, rfl, own5, b5⟩
    have s5 := b5.size
    have hown5 := jc0 hown b5
    have HB5 : Hid _ := jc8 hb b5 hb.size
    have f0 := hown5.frozenAt k
    obtain ⟨y0, d0⟩ := jo6 hown5 k (by omega)
    have hst := (hown5.stored k (.slice (some ⟨g5, 0, none⟩) p.length c5)).1
    rw [hset (.slice (some ⟨g5, 0, none⟩) p.length c5) k hus (by omega)] at hst
    have HS : Hid ((w5.setCell ⟨G, k, none⟩ (.slice (some ⟨g5, 0, none⟩) p.length c5)).ownsRow G 63 1 (.slice (some ⟨G, 0, none⟩) n n) n ((us ++ [.slice (some ⟨g5, 0, none⟩) p.length c5]) ++ zs.drop (k + 1))) := hst
    have hlts : ∀ y ∈ us, ∀ q, y.ownBlock = some q → q < wr.heap.size := by
     intro y hy q hq
     obtain ⟨j, hj⟩ := List.getElem?_of_mem hy
     have hjl := (List.getElem?_eq_some_iff.1 hj).1
     obtain ⟨pp, hpp⟩ : ∃ pp, C[j]? = some pp := ⟨_, List.getElem?_eq_getElem (by rw [HCL.out, HN.out]; omega)⟩
     exact ((HIN.out j y pp hj hpp).lt q hq).2
    have HAP5 : Hid (Apart13 (us ++ [.slice (some ⟨g5, 0, none⟩) p.length c5])) := Apart13.snoc HAP.out (fun y hy q hq e => by have h1 := hlts y hy q hq; have h2 := (own5.lt g5 rfl).1; have h3 : g5 = q := Option.some.inj e; omega)
    have HI : Hid (∀ (j : Nat) (v : Value) (q : List Stm), (us ++ [.slice (some ⟨g5, 0, none⟩) p.length c5])[j]? = some v → C[j]? = some q → w5.ownsRow (G + 1) 52 3 v q.length (ja3 q)) := by
     intro j v q h1 h2
     by_cases hj : j < us.length
     · rw [List.getElem?_append_left hj] at h1
       exact jc0 (HIN.out j v q h1 h2) b5
     · have hj' : j = k := by
        have := (List.getElem?_eq_some_iff.1 h1).1
        simp at this
        omega
       subst hj'
       rw [HCG.out] at h2
       simp [← hus] at h1
       obtain rfl := Option.some.inj h2
       subst h1
       have := jc4 own5 (by omega : G + 1 ≤ wr.heap.size)
       simpa using this
    have HOR5 : Hid _ := jc0 HOR.out b5
    have HB50 : Hid _ := (b5.block w.heap.size (by omega)).trans HB0.out
    have HB51 : Hid _ := (b5.block (w.heap.size + 1) (by omega)).trans HB1.out
    have hw1 : G ≠ go := by omega
    clear hst hset hren own5 hlts HIN HAP b5 hown
    go_wp2
    go_roundw
    case rel => exact ⟨k + 1, us ++ [.slice (some ⟨g5, 0, none⟩) p.length c5], by omega, by simp [hus], by go_num, HS.out, HB5.out.setCell (by simp; omega) _, by simp [World.setCell]; omega,
     fun j v p h1 h2 => ownsRow_setCell_below (HI.out j v p h1 h2) (by simp) _, HAP5.out, ownsRow_setCell_other HOR5.out (fun e => by have := Option.some.inj e; simp at this; omega) _, (Below.heap_setCell _ _ _ _ (by simp; omega)).trans HB50.out, (Below.heap_setCell _ _ _ _ (by simp; omega)).trans HB51.out⟩
    case measure => simp [intOf]; omega
  · have hkk : k = n := by omega
    rw [List.drop_of_length_le (by omega), List.append_nil] at hown
    obtain ⟨d1, f1⟩ := ja4 B1
    have d2 := (ja4 (jg1 B1 (.slice (some ⟨G, 0, none⟩) n n))).1
    have HF : Hid (Own13 (wr.setCell ⟨w.heap.size + 1, 0, none⟩ (.slice (some ⟨G, 0, none⟩) n n)) w.heap.size (.slice (some ⟨G, 0, none⟩) n n) us C) := by
     refine ⟨?_, fun j u p h1 h2 => ?_, hap⟩
     · have h5 : C.length = n := by rw [HCL.out, HN.out]
       rw [h5]
       exact jc4 (ownsRow_setCell_other hown (fun e => by have := Option.some.inj e; simp at this; omega) _) (by omega)
     · exact jc4 (ownsRow_setCell_below (hin j u p h1 h2) (by simp; omega) _) (by omega)
    have HB : Hid (Below w.heap.size w (wr.setCell ⟨w.heap.size + 1, 0, none⟩ (.slice (some ⟨G, 0, none⟩) n n))) := hb.setCell (by simp) _
    clear hown hin hap hord HCL
    go_wp2
    refine bodyPost_ret (v := .agg #[.slice (some ⟨G, 0, none⟩) n n]) (by simp [results, Tryz.results31, go_sem, d2]) rfl ?_
    exact ⟨_, us, rfl, HF.out, HB.out⟩
theorem closureOf_no (ps : List (List Stm)) (i : Int) (v : Value) (w : World) (hl : ps.length ≤ maxLen) (hp : ∀ p ∈ ps, p.length ≤ maxLen) (hok : hasB ps i = false) (hv : jb5 w v ps) :
 Calls Tryz.prog 31 #[.agg #[v], .int .i64 i] w fun e w' => e = .panicked [{ v := jm0, recovered := false }] ∧ Below w.heap.size w w' := by
 obtain ⟨W0, hW0⟩ : ∃ W0, (w.alloc (.cells #[v] 26)).alloc (.cells #[.slice none 0 0] 26) = W0 := ⟨_, rfl⟩
 have b0 : Below w.heap.size w W0 := by rw [← hW0]; go_grown
 have s0 : W0.heap.size = w.heap.size + 2 := by rw [← hW0]; simp
 have H0 : W0.heap[w.heap.size]? = some (.cells #[v] 26 (0, 0)) := by rw [← hW0, ja2 (by simp)]; exact heap_alloc_new w _
 have hhp := hasProc ps i v W0 hl hp (ja0 hv b0)
 rw [hok] at hhp
 have HW0 : Hid _ := hW0
 have c0 := (ja4 H0).1
 clear hW0 hok hv
 go_enter Tryz.func31, Tryz.ntmps31
 go_wp2_with fail
 rw [HW0.out]
 clear HW0
 go_wp2_with fail
 go_at_call 42
 refine hhp.mono ?_
 rintro e w1 ⟨rfl, b1⟩
 have L1 : Below w.heap.size w w1 := jc8 b0 b1 (by omega)
 clear hhp c0 H0 b0 b1
 go_wp2_with fail
 go_at_call 55
 refine (need_no w1).mono ?_
 rintro e w1' ⟨rfl, rfl⟩
 go_wp2
 exact ⟨rfl, rfl, L1⟩
end Go.Proofs.YtldagpfeaabcdaaGreatDoor
