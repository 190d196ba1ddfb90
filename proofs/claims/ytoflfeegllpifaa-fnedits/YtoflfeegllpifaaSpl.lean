/-
  impl.spliced: jumps moved, then slices.Replace.
-/
import Derived.Test.YtoflfeegllpifaaIns
import Derived.Test.YtoflfeegllpifaaEditM
namespace Go.Proofs.Ytoflfeegllpifaa
open Go.RowKit
set_option linter.unusedVariables false
set_option linter.unusedSimpArgs false
set_option maxHeartbeats 4000000
set_option maxRecDepth 20000

/-- What slices.Replace makes of a row in block g. -/
def RepAt (g base n' : Nat) (R : List Stm) (W : World) (e : Ending) (w' : World) : Prop :=
  ∃ q c', e = .returned (.slice (some ⟨q, 0, none⟩) n' c') ∧ w'.ownsRow base 37 3 (.slice (some ⟨q, 0, none⟩) n' c') n' (cells3 R) ∧ W.grownBy w' (some g) ∧ (q = g ∨ W.heap.size ≤ q)

theorem grown_setRow13 (w : World) (b o : Nat) (v : Value) : w.grownBy (w.setCell ⟨b, o, none⟩ v) (some b) :=
  ⟨rfl, rfl, rfl, by simp [World.setCell], fun k _ hk => Below.heap_setCell w ⟨b, o, none⟩ v k (fun e => hk (by rw [e]))⟩

theorem splicedBy (p R : List Stm) (vo : Option Addr) (c vc a gn g cap base n n' : Nat) (w : World) (hn : p.length = n) (hl : n ≤ 100) (hc : c ≤ 1) (hgn : gn ≤ 1) (ha : a < n) (hy : ∀ s ∈ p, 0 ≤ s.y ∧ s.y ≤ 11) (hbase : base ≤ w.heap.size) (hgb : g < w.heap.size)
    (hv : w.ownsRow base 37 3 (.slice (some ⟨g, 0, none⟩) n cap) n (cells3 p))
    (hR : ∀ W : World, W.ownsRow base 37 3 (.slice (some ⟨g, 0, none⟩) n cap) n (cells3 (mv ((a + gn : Nat) : Int) ((c : Int) - (gn : Int)) p)) → w.grownBy W (some g) →
      Calls Try.prog 61 #[.slice (some ⟨g, 0, none⟩) n cap, .int .i64 (a : Int), .int .i64 ((a + gn : Nat) : Int), .slice vo c vc] W (RepAt g base n' R W)) :
    Calls Try.prog 56 #[.agg #[.slice (some ⟨g, 0, none⟩) n cap], .int .i64 (a : Int), .int .i64 (gn : Int), .slice vo c vc] w fun e w' =>
      ∃ q c', e = .returned (.agg #[.slice (some ⟨q, 0, none⟩) n' c']) ∧ w'.ownsRow base 37 3 (.slice (some ⟨q, 0, none⟩) n' c') n' (cells3 R) ∧ w.grownBy w' (some g) ∧ (q = g ∨ w.heap.size ≤ q) := by
  obtain ⟨D, hD⟩ : ∃ D : Int, (c : Int) - (gn : Int) = D := ⟨_, rfl⟩
  obtain ⟨J, hJ⟩ : ∃ J : Nat, a + gn = J := ⟨_, rfl⟩
  have hJi : (a : Int) + (gn : Int) = (J : Int) := by omega
  rw [hD, hJ] at hR
  have hDb : -1 ≤ D ∧ D ≤ 1 := by omega
  obtain ⟨W0, hW0⟩ : ∃ W0, (w.alloc (.cells #[.slice (some ⟨g, 0, none⟩) n cap] 34)).alloc (.cells #[.slice none 0 0] 34) = W0 := ⟨_, rfl⟩
  have b0 : Below w.heap.size w W0 := by rw [← hW0]; go_grown
  have s0 : W0.heap.size = w.heap.size + 2 := by rw [← hW0]; simp
  have H0 : W0.heap[w.heap.size]? = some (.cells #[.slice (some ⟨g, 0, none⟩) n cap] 34 (0, 0)) := by rw [← hW0, old_block (by simp)]; exact heap_alloc_new w _
  have H1 : W0.heap[w.heap.size + 1]? = some (.cells #[.slice none 0 0] 34 (0, 0)) := by
    rw [← hW0]
    have := heap_alloc_new (w.alloc (.cells #[.slice (some ⟨g, 0, none⟩) n cap] 34)) (.cells #[.slice none 0 0] 34)
    simpa using this
  have own0 := own_kept hv b0
  have hzw : w.heap.size ≠ g := by omega
  have HR : Hid _ := hR
  clear hR hv
  go_enter Try.func56, Try.ntmps56
  have c0 := (one_cell H0).1
  have hwJ : IntKind.i64.wrap (J : Int) = (J : Int) := IntWalk.i64_in _ (by omega)
  go_wp2_with fail
  have G0 := grown_of_below b0 (some g)
  have HS0 : Hid (W0.heap.size = w.heap.size + 2) := s0
  have HP : Hid (part13 (J : Int) D p 0 = p) := part13_zero _ _ _
  have own0 : W0.ownsRow base 37 3 (.slice (some ⟨g, 0, none⟩) n cap) n (cells3 (part13 (J : Int) D p 0)) := by rw [HP.out]; exact own0
  have HD : Hid _ := hD
  clear hW0 b0 s0 c0 hD
  go_loopw [18] (fun i wr => ∃ j : Nat, j ≤ n ∧ i = .int .i64 j ∧ wr.ownsRow base 37 3 (.slice (some ⟨g, 0, none⟩) n cap) n (cells3 (part13 (J : Int) D p j)) ∧ wr.heap[w.heap.size]? = some (.cells #[.slice (some ⟨g, 0, none⟩) n cap] 34 (0, 0)) ∧ wr.heap[w.heap.size + 1]? = some (.cells #[.slice none 0 0] 34 (0, 0)) ∧ w.grownBy wr (some g) ∧ w.heap.size + 2 ≤ wr.heap.size) (fun i _ => n - (intOf i).toNat)
  case atStart => exact ⟨0, Nat.zero_le _, rfl, own0, H0, H1, G0, by rw [HS0.out]; exact Nat.le_refl _⟩
  case round =>
    obtain ⟨j, hj, rfl, own, B0, B1, G1, hz⟩ := hrel
    by_cases hlt : j < n
    · have hlt' : (j : Int) < (n : Int) := by omega
      have hjp : j < p.length := by omega
      have hget := part13_get (J : Int) D p j hjp
      obtain ⟨e0, e1, e2⟩ := cells3_get _ j _ hget
      have hcl := cells3_length (part13 (J : Int) D p j)
      have hpl := part13_length (J : Int) D p j (by omega)
      have q0 := (own.cellAt (j * 3) (by omega)).trans e0
      have q1 := (own.cellAt (j * 3 + 1) (by omega)).trans e1
      have q2 := (own.cellAt (j * 3 + 2) (by omega)).trans e2
      have f2 := own.frozenAt (j * 3 + 2)
      obtain ⟨hy0, hy1⟩ := hy p[j] (List.getElem_mem hjp)
      have hset := cells3_setY (part13 (J : Int) D p j) j p[j]
      have hsuc := part13_succ (J : Int) D p j hjp
      have hsam := part13_same (J : Int) D p j hjp
      have hjy := @jmp_yes (J : Int) D p[j]
      have hjn := @jmp_no (J : Int) D p[j]
      have hset := fun y => hset y hget
      generalize p[j] = s at *
      obtain ⟨sk, sx, sy⟩ := s
      simp only at *
      have HSET : Hid _ := hset
      have HSUC : Hid _ := hsuc
      have HSAM : Hid _ := hsam
      have HJY : Hid _ := hjy
      have HJN : Hid _ := hjn
      have hgz := Nat.lt_of_lt_of_le hgb (Nat.le_trans (by omega) hz)
      clear hset hsuc hsam hjy hjn hget e0 e1 e2 hcl hpl hy
      have c0 := (one_cell B0).1
      have bA : Below wr.heap.size wr (wr.alloc (.cells #[.int .i64 sk, .int .i64 sx, .int .i64 sy] 37)) := by go_grown
      have GA : w.grownBy (wr.alloc (.cells #[.int .i64 sk, .int .i64 sx, .int .i64 sy] 37)) (some g) := grown_trans G1 (grown_of_below bA _)
      have HGA : Hid _ := GA
      have HOA : Hid ((wr.alloc (.cells #[.int .i64 sk, .int .i64 sx, .int .i64 sy] 37)).ownsRow base 37 3 (.slice (some ⟨g, 0, none⟩) n cap) n (cells3 (part13 (J : Int) D p j))) := own_kept own bA
      have HB0 : Hid _ := (bA.block _ (by omega)).trans B0
      have HB1 : Hid _ := (bA.block _ (by omega)).trans B1
      by_cases hk : sk = 7
      · subst hk
        by_cases hb : (J : Int) ≤ sy
        · have hw1 : IntKind.i64.wrap ((c : Int) - (gn : Int)) = D := by rw [HD.out]; exact IntWalk.i64_in _ (by omega)
          have hw2 : IntKind.i64.wrap (sy + D) = sy + D := IntWalk.i64_in _ (by omega)
          have hDD : (c : Int) - (gn : Int) = D := HD.out
          have cA0 := (one_cell HB0.out).1
          have qA2 := (bA.cell (p := ⟨g, j * 3 + 2, none⟩) hgz).trans q2
          have fA2 := World.ownsRow.frozenAt HOA.out (j * 3 + 2)
          have bS : Below wr.heap.size (wr.setCell ⟨g, j * 3 + 2, none⟩ (.int .i64 (sy + D))) ((wr.setCell ⟨g, j * 3 + 2, none⟩ (.int .i64 (sy + D))).alloc (.cells #[.int .i64 7, .int .i64 sx, .int .i64 sy] 37)) := Below.alloc (Below.refl _ _) (by simp [World.setCell]) _
          have zS : (wr.setCell ⟨g, j * 3 + 2, none⟩ (.int .i64 (sy + D))).heap.size = wr.heap.size := by simp [World.setCell]
          have HST : Hid (((wr.setCell ⟨g, j * 3 + 2, none⟩ (.int .i64 (sy + D))).alloc (.cells #[.int .i64 7, .int .i64 sx, .int .i64 sy] 37)).ownsRow base 37 3 (.slice (some ⟨g, 0, none⟩) n cap) n ((cells3 (part13 (J : Int) D p j)).set (j * 3 + 2) (.int .i64 (sy + D)))) := own_kept (own.stored (j * 3 + 2) (.int .i64 (sy + D))).1 (by rw [zS]; exact bS)
          have HGS : Hid (w.grownBy ((wr.setCell ⟨g, j * 3 + 2, none⟩ (.int .i64 (sy + D))).alloc (.cells #[.int .i64 7, .int .i64 sx, .int .i64 sy] 37)) (some g)) := grown_trans (grown_trans G1 (grown_setRow13 _ _ _ _)) (grown_of_below (by rw [zS]; exact bS) _)
          have HC0 : Hid _ := (bS.block w.heap.size (by omega)).trans ((Below.heap_setCell wr ⟨g, j * 3 + 2, none⟩ (.int .i64 (sy + D)) _ (by simp; omega)).trans B0)
          have HC1 : Hid _ := (bS.block (w.heap.size + 1) (by omega)).trans ((Below.heap_setCell wr ⟨g, j * 3 + 2, none⟩ (.int .i64 (sy + D)) _ (by simp; omega)).trans B1)
          clear bS zS
          clear GA bA
          go_wp2
          go_roundw
          case rel =>
            refine ⟨j + 1, by omega, by go_num, ?_, HC0.out, HC1.out, HGS.out, by simp [World.setCell]; omega⟩
            rw [HSUC.out, HJY.out rfl hb]
            have h5 := HST.out
            rw [HSET.out (sy + D)] at h5
            exact h5
          case measure => simp [intOf]; omega
        · have hb' : ¬ (J : Int) ≤ sy := hb
          clear GA bA
          go_wp2
          go_roundw
          case rel =>
            refine ⟨j + 1, by omega, by go_num, ?_, HB0.out, HB1.out, HGA.out, by simp; omega⟩
            rw [HSAM.out (HJN.out (fun h => hb h.2))]
            exact HOA.out
          case measure => simp [intOf]; omega
      · have hk' : (sk == 7) = false := by simpa using hk
        clear GA bA
        go_wp2
        go_roundw
        case rel =>
          refine ⟨j + 1, by omega, by go_num, ?_, HB0.out, HB1.out, HGA.out, by simp; omega⟩
          rw [HSAM.out (HJN.out (fun h => hk h.1))]
          exact HOA.out
        case measure => simp [intOf]; omega
    · have hjj : j = n := by omega
      subst hjj
      have e9 : part13 (J : Int) D p j = mv (J : Int) D p := by rw [← hn]; exact part13_all _ _ _
      rw [e9] at own
      have c0 := (one_cell B0).1
      have hrep := HR.out wr own G1
      clear e9 own
      go_wp2_with fail
      go_at_call 61
      refine hrep.mono ?_
      rintro e w2 ⟨q, c', rfl, ow2, g2, hq⟩
      have hne1 : w.heap.size + 1 ≠ g := by omega
      have HB2 := (g2.block (w.heap.size + 1) (by omega) (fun e => hne1 (Option.some.inj e))).trans B1
      obtain ⟨d1, f1⟩ := one_cell HB2
      have HB3 := one_set HB2 (.slice (some ⟨q, 0, none⟩) n' c')
      obtain ⟨d2, f3⟩ := one_cell HB3
      have HNQ : Hid (q ≠ w.heap.size + 1) := by
        show _ ≠ _
        rcases hq with rfl | hq <;> omega
      have HOW : Hid (w2.ownsRow base 37 3 (.slice (some ⟨q, 0, none⟩) n' c') n' (cells3 R)) := ow2
      have HGG : Hid (w.grownBy w2 (some g)) := grown_trans G1 g2
      clear ow2 g2 HB2 HB3 hrep
      go_wp2
      refine bodyPost_ret (v := .agg #[.slice (some ⟨q, 0, none⟩) n' c']) (by simp [results, Try.results56, go_sem, d2]) rfl ?_
      refine ⟨q, c', rfl, ownsRow_setCell_other (a := ⟨w.heap.size + 1, 0, none⟩) HOW.out (fun e => HNQ.out (Option.some.inj e)) _, ?_, ?_⟩
      · have h6 := HGG.out
        exact ⟨h6.os, h6.tape, h6.output, by simpa [World.setCell] using h6.size, fun k hk hne => (Below.heap_setCell _ _ _ _ (by simp; omega)).trans (h6.block k hk hne)⟩
      · rcases hq with h | h
        · exact .inl h
        · exact .inr (by omega)

end Go.Proofs.Ytoflfeegllpifaa
