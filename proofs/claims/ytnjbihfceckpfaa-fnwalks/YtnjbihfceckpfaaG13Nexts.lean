/-
 Put together out of: ProgOk, Nexts.
-/
import Derived.Test.YtnjbihfceckpfaaG12Progs
import Derived.Test.YtnjbihfceckpfaaG05RelM
import Derived.Test.YtnjbihfceckpfaaG11Proc
import Derived.Laws.OwnMore
/-
 spec.ProgramOk, impl.callsBelow, impl.ProgramOk.
-/
namespace Go.Proofs.Ytnjbihfceckpfaa
open Go.RowKit
set_option linter.unusedVariables false
set_option maxHeartbeats 1000000

/-- Does a statement call only what a Program of n has? -/
def callOk (n : Nat) (s : Stm) : Bool := !(decide (s.k = 8) && decide ((n : Int) ≤ s.y))

def partOk (n : Nat) (p : List Stm) : Bool := procOk p && p.all (callOk n)

/-- What both answer of a Program. -/
def programOk (ps : List (List Stm)) : Bool := decide (1 ≤ ps.length) && decide (ps.length ≤ 4) && ps.all (partOk ps.length)

theorem procOk_stm {p : List Stm} (h : procOk p = true) {s : Stm} (hs : s ∈ p) : stmtOk s.k s.x s.y = true := by
 unfold procOk at h
 simp only [Bool.and_eq_true] at h
 have := List.all_eq_true.1 h.2 s hs
 unfold stmOk at this
 simp only [Bool.and_eq_true] at this
 exact this.1

theorem stmtOk_call {x y : Int} (h : stmtOk 8 x y = true) : 0 ≤ y ∧ y ≤ 3 := by
 unfold stmtOk at h
 simp [inB] at h
 omega

theorem specProgramOk (ps : List (List Stm)) (v : Value) (w : World) (hl : ps.length ≤ maxLen) (hp : ∀ p ∈ ps, p.length ≤ maxLen) (hv : ReadsP w v ps) :
 Calls Try.prog 39 #[.agg #[v]] w fun e w' => e = .returned (.bool (programOk ps)) ∧ Below w.heap.size w w' := by
 unfold maxLen at hl
 obtain ⟨ao, cap, rfl, hc⟩ := hv
 by_cases h1 : ps.length < 1
 · have hr : programOk ps = false := by simp [programOk]; omega
   rw [hr]
   have h1' : (ps.length : Int) < 1 := by omega
   go_enter Try.func39, Try.ntmps39
   go_wp2
   go_ret
   exact ⟨rfl, by go_grown⟩
 by_cases h2 : 4 < ps.length
 · have hr : programOk ps = false := by simp [programOk]; omega
   rw [hr]
   have h1' : ¬ (ps.length : Int) < 1 := by omega
   have h2' : (4 : Int) < (ps.length : Int) := by omega
   go_enter Try.func39, Try.ntmps39
   go_wp2
   go_ret
   exact ⟨rfl, by go_grown⟩
 have hr : programOk ps = ps.all (partOk ps.length) := by
  have e1 : decide (1 ≤ ps.length) = true := by simp; omega
  have e2 : decide (ps.length ≤ 4) = true := by simp; omega
  rw [programOk, e1, e2]
  rfl
 rw [hr]
 clear hr
 have i1 : ¬ (ps.length : Int) < 1 := by omega
 have i2 : ¬ (4 : Int) < (ps.length : Int) := by omega
 go_enter Try.func39, Try.ntmps39
 go_wp2
 have hb0 : Below w.heap.size w (w.alloc (.cells #[.slice ao ps.length cap] 30)) := by go_grown
 have H0 := heap_alloc_new w (.cells #[.slice ao ps.length cap] 30)
 have s0 : (w.alloc (.cells #[.slice ao ps.length cap] 30)).heap.size = w.heap.size + 1 := by simp
 generalize w.alloc (.cells #[.slice ao ps.length cap] 30) = W at *
 go_loopw [4] (fun i wr => ∃ k : Nat, k ≤ ps.length ∧ i = .int .i64 k ∧ Below W.heap.size W wr ∧ (ps.take k).all (partOk ps.length) = true) (fun i _ => ps.length - (intOf i).toNat)
 case atStart => exact ⟨0, Nat.zero_le _, rfl, Below.refl _ _, by simp⟩
 case round =>
  obtain ⟨k, hk, rfl, hb, hall⟩ := hrel
  have HALL : Hid _ := hall
  clear hall
  have hbw : Below w.heap.size w wr := hb0.trans (hb.mono hb0.size)
  by_cases hlt : k < ps.length
  · have hlt' : (k : Int) < (ps.length : Int) := by omega
    obtain ⟨g, off, u, rfl, p0, r0⟩ := hc k ps[k] (by simp [hlt])
    have pB := World.block_lt_of_cell? w _ p0
    have qB := (hbw.cell pB).trans p0
    have pl := hp ps[k] (List.getElem_mem hlt)
    have he := specProcOk ps[k] u wr pl (reads3_below r0 hbw)
    have hstep := all_take_succ (partOk ps.length) ps k hlt
    have hbad := all_false (partOk ps.length) ps k hlt
    rw [HALL.out, Bool.true_and] at hstep
    have HS : Hid _ := hstep
    have HB : Hid _ := hbad
    clear hstep hbad hc
    generalize hst : ps[k] = q at *
    clear hst
    obtain ⟨ua, uc, rfl, hd⟩ := id r0
    have C0 : Hid _ := (hb.block w.heap.size (by omega)).trans H0
    obtain ⟨c0, f0⟩ := one_cell C0.out
    cases hok : procOk q
    · rw [hok] at he
      have HF : Hid _ := HB.out (by simp [partOk, hok])
      clear HS HB
      go_wp2_with (go_at_call 67; refine he.mono ?_; rintro e w2 ⟨rfl, b2⟩)
      go_ret
      exact ⟨by rw [HF.out]; rfl, hbw.trans (b2.mono hbw.size)⟩
    · rw [hok] at he
      go_wp2_with fail
      go_at_call 67
      refine he.mono ?_
      rintro e w2 ⟨rfl, b2⟩
      have s2 := b2.size
      have hbw2 : Below w.heap.size w w2 := hbw.trans (b2.mono hbw.size)
      have hb2 : Below W.heap.size W w2 := hb.trans (b2.mono hb.size)
      have C2 : Hid _ := (b2.block w.heap.size (by have := hb.size; omega)).trans C0.out
      obtain ⟨c2, f2⟩ := one_cell C2.out
      have q2 := (hbw2.cell pB).trans p0
      clear c0 f0 C0 qB he
      have pl' : q.length ≤ 9223372036854775807 := by unfold maxLen at pl; omega
      go_wp2
      go_loopw [5] (fun i wq => ∃ j : Nat, j ≤ q.length ∧ i = .int .i64 j ∧ w2 = wq ∧ (q.take j).all (callOk ps.length) = true) (fun i _ => q.length - (intOf i).toNat)
      case atStart => exact ⟨0, Nat.zero_le _, rfl, rfl, by simp⟩
      case round =>
       obtain ⟨j, hj, rfl, rfl, hall2⟩ := hrel
       have HALL2 : Hid _ := hall2
       clear hall2
       by_cases hlt2 : j < q.length
       · have hlt2' : (j : Int) < (q.length : Int) := by omega
         obtain ⟨g', off', rfl, a0, a1, a2⟩ := hd j q[j] (by simp [hlt2])
         have aB := World.block_lt_of_cell? w _ a0
         have a0 := (hbw2.cell aB).trans a0
         have a1 := (hbw2.cell (p := ⟨g', off' + j * 3 + 1, none⟩) aB).trans a1
         have a2 := (hbw2.cell (p := ⟨g', off' + j * 3 + 2, none⟩) aB).trans a2
         have hstep2 := all_take_succ (callOk ps.length) q j hlt2
         have hbad2 := all_false (callOk ps.length) q j hlt2
         rw [HALL2.out, Bool.true_and] at hstep2
         have HS2 : Hid _ := hstep2
         have HB2 : Hid _ := hbad2
         clear hstep2 hbad2 hd
         generalize hst : q[j] = s at a0 a1 a2 HS2 HB2
         clear hst
         obtain ⟨sk, sx, sy⟩ := s
         simp only at a0 a1 a2
         by_cases h8 : sk = 8
         · subst h8
           by_cases hy : (ps.length : Int) ≤ sy
           · have HF : Hid _ := HB.out (by rw [partOk, HB2.out (by simp [callOk, hy]), Bool.and_false])
             clear HS HB HS2 HB2
             go_wp2
             go_ret
             exact ⟨by rw [HF.out]; rfl, hbw2⟩
           · have HF : Hid ((q.take (j + 1)).all (callOk ps.length) = true) := HS2.out.trans (by simp [callOk, hy])
             clear HS2 HB2
             go_wp2
             go_roundw
             case rel => exact ⟨j + 1, by omega, by go_num, by trivial, HF.out⟩
             case measure => simp [intOf]; omega
         · have HF : Hid ((q.take (j + 1)).all (callOk ps.length) = true) := HS2.out.trans (by simp [callOk, h8])
           have h8' : (sk == 8) = false := by simpa using h8
           clear HS2 HB2
           go_wp2
           go_roundw
           case rel => exact ⟨j + 1, by omega, by go_num, by trivial, HF.out⟩
           case measure => simp [intOf]; omega
       · have hjj : j = q.length := by omega
         subst hjj
         have HF : Hid ((ps.take (k + 1)).all (partOk ps.length) = true) := by
          have h3 := HALL2.out
          rw [List.take_length] at h3
          exact HS.out.trans (by rw [partOk, hok, h3]; rfl)
         go_wp2
         go_roundw
         case rel => exact ⟨k + 1, by omega, by go_num, hb2, HF.out⟩
         case measure => simp [intOf]; omega
  · have hkk : k = ps.length := by omega
    subst hkk
    go_wp2
    go_ret
    have hal := HALL.out
    rw [List.take_length] at hal
    exact ⟨by rw [hal]; rfl, hbw⟩

theorem callsBelow (p : List Stm) (n : Nat) (v : Value) (w : World) (hl : p.length ≤ maxLen) (hn : n ≤ 4) (hok : ∀ s ∈ p, stmtOk s.k s.x s.y = true) (hv : Reads3 w v p) :
 Calls Try.prog 110 #[.agg #[v], .int .i64 n] w fun e w' => e = .returned (.bool (p.all (callOk n))) ∧ Below w.heap.size w w' := by
 unfold maxLen at hl
 obtain ⟨ao, cap, rfl, hc⟩ := hv
 go_enter Try.func110, Try.ntmps110
 go_wp2
 have hb0 : Below w.heap.size w (w.alloc (.cells #[.slice ao p.length cap] 81)) := by go_grown
 generalize w.alloc (.cells #[.slice ao p.length cap] 81) = W at *
 go_loopw [10] (fun i wr => ∃ k : Nat, k ≤ p.length ∧ i = .int .i64 k ∧ Below w.heap.size w wr ∧ (p.take k).all (callOk n) = true) (fun i _ => p.length - (intOf i).toNat)
 case atStart => exact ⟨0, Nat.zero_le _, rfl, hb0, by simp⟩
 case round =>
  obtain ⟨k, hk, rfl, hb, hall⟩ := hrel
  have HALL : Hid _ := hall
  clear hall
  by_cases hlt : k < p.length
  · have hlt' : (k : Int) < (p.length : Int) := by omega
    obtain ⟨g, off, rfl, a0, a1, a2⟩ := hc k p[k] (by simp [hlt])
    have aB := World.block_lt_of_cell? w _ a0
    have a0 := (hb.cell aB).trans a0
    have a1 := (hb.cell (p := ⟨g, off + k * 3 + 1, none⟩) aB).trans a1
    have a2 := (hb.cell (p := ⟨g, off + k * 3 + 2, none⟩) aB).trans a2
    have hsk := hok p[k] (List.getElem_mem hlt)
    have hstep := all_take_succ (callOk n) p k hlt
    have hbad := all_false (callOk n) p k hlt
    rw [HALL.out, Bool.true_and] at hstep
    have HS : Hid _ := hstep
    have HB : Hid _ := hbad
    clear hstep hbad hc hok
    generalize hst : p[k] = s at a0 a1 a2 HS HB hsk
    clear hst
    obtain ⟨sk, sx, sy⟩ := s
    simp only at a0 a1 a2 hsk
    have hbx : Below w.heap.size w (wr.alloc (.cells #[.int .i64 sk, .int .i64 sx, .int .i64 sy] 92)) := hb.alloc hb.size _
    by_cases h8 : sk = 8
    · subst h8
      have hwi := within sy n
      rw [wi_ge (stmtOk_call hsk).1] at hwi
      clear hsk
      by_cases hy : (n : Int) ≤ sy
      · have HF : Hid _ := HB.out (by simp [callOk, hy])
        have hd : decide ((n : Int) ≤ sy) = true := by simp [hy]
        rw [hd] at hwi
        clear HS HB hd
        go_wp2_with (go_at_call 137; refine (hwi _).mono ?_; rintro e w3 ⟨rfl, rfl⟩)
        go_ret
        exact ⟨by rw [HF.out]; rfl, hbx⟩
      · have HF : Hid ((p.take (k + 1)).all (callOk n) = true) := HS.out.trans (by simp [callOk, hy])
        have hd : decide ((n : Int) ≤ sy) = false := by simp; omega
        rw [hd] at hwi
        clear HS HB hd
        go_wp2_with (go_at_call 137; refine (hwi _).mono ?_; rintro e w3 ⟨rfl, rfl⟩)
        go_roundw
        case rel => exact ⟨k + 1, by omega, by go_num, hbx, HF.out⟩
        case measure => simp [intOf]; omega
    · have HF : Hid ((p.take (k + 1)).all (callOk n) = true) := HS.out.trans (by simp [callOk, h8])
      have h8' : (sk == 8) = false := by simpa using h8
      clear HS HB hsk
      go_wp2
      go_roundw
      case rel => exact ⟨k + 1, by omega, by go_num, hbx, HF.out⟩
      case measure => simp [intOf]; omega
  · have hkk : k = p.length := by omega
    subst hkk
    go_wp2
    go_ret
    have hal := HALL.out
    rw [List.take_length] at hal
    exact ⟨by rw [hal]; rfl, hb⟩

theorem implProgramOk (ps : List (List Stm)) (v : Value) (w : World) (hl : ps.length ≤ maxLen) (hp : ∀ p ∈ ps, p.length ≤ maxLen) (hv : ReadsP w v ps) :
 Calls Try.prog 76 #[.agg #[v]] w fun e w' => e = .returned (.bool (programOk ps)) ∧ Below w.heap.size w w' := by
 unfold maxLen at hl
 obtain ⟨ao, cap, rfl, hc⟩ := hv
 by_cases h1 : ps.length < 1
 · have hr : programOk ps = false := by simp [programOk]; omega
   rw [hr]
   have h1' : (ps.length : Int) < 1 := by omega
   go_enter Try.func76, Try.ntmps76
   go_wp2
   go_ret
   exact ⟨rfl, by go_grown⟩
 by_cases h2 : 4 < ps.length
 · have hr : programOk ps = false := by simp [programOk]; omega
   rw [hr]
   have h1' : ¬ (ps.length : Int) < 1 := by omega
   have h2' : (4 : Int) < (ps.length : Int) := by omega
   go_enter Try.func76, Try.ntmps76
   go_wp2
   go_ret
   exact ⟨rfl, by go_grown⟩
 have hr : programOk ps = ps.all (partOk ps.length) := by
  have e1 : decide (1 ≤ ps.length) = true := by simp; omega
  have e2 : decide (ps.length ≤ 4) = true := by simp; omega
  rw [programOk, e1, e2]
  rfl
 rw [hr]
 clear hr
 have i1 : ¬ (ps.length : Int) < 1 := by omega
 have i2 : ¬ (4 : Int) < (ps.length : Int) := by omega
 go_enter Try.func76, Try.ntmps76
 go_wp2
 have hb0 : Below w.heap.size w (w.alloc (.cells #[.slice ao ps.length cap] 30)) := by go_grown
 generalize w.alloc (.cells #[.slice ao ps.length cap] 30) = W at *
 go_loopw [18] (fun i wr => ∃ k : Nat, k ≤ ps.length ∧ i = .int .i64 k ∧ Below w.heap.size w wr ∧ (ps.take k).all (partOk ps.length) = true) (fun i _ => ps.length - (intOf i).toNat)
 case atStart => exact ⟨0, Nat.zero_le _, rfl, hb0, by simp⟩
 case round =>
  obtain ⟨k, hk, rfl, hb, hall⟩ := hrel
  have HALL : Hid _ := hall
  clear hall
  by_cases hlt : k < ps.length
  · have hlt' : (k : Int) < (ps.length : Int) := by omega
    obtain ⟨g, off, u, rfl, p0, r0⟩ := hc k ps[k] (by simp [hlt])
    have p0 := (hb.cell (World.block_lt_of_cell? w _ p0)).trans p0
    have pl := hp ps[k] (List.getElem_mem hlt)
    have r0 := reads3_below r0 hb
    have hbx : Below w.heap.size w (wr.alloc (.cells #[u] 81)) := hb.alloc hb.size _
    have bx : Below wr.heap.size wr (wr.alloc (.cells #[u] 81)) := by go_grown
    have X0 := heap_alloc_new wr (.cells #[u] 81)
    have sx : (wr.alloc (.cells #[u] 81)).heap.size = wr.heap.size + 1 := by simp
    have he := implProcOk ps[k] u _ pl (reads3_below r0 bx)
    have hcb := callsBelow ps[k] ps.length u
    have hstm := procOk_stm (p := ps[k])
    have hstep := all_take_succ (partOk ps.length) ps k hlt
    have hbad := all_false (partOk ps.length) ps k hlt
    rw [HALL.out, Bool.true_and] at hstep
    have HS : Hid _ := hstep
    have HB : Hid _ := hbad
    clear hstep hbad hc
    generalize hst : ps[k] = q at *
    clear hst
    obtain ⟨ua, un, uc, rfl⟩ := reads3_slice r0
    cases hok : procOk q
    · rw [hok] at he
      have HF : Hid _ := HB.out (by simp [partOk, hok])
      clear HS HB hcb hstm
      go_wp2_with (go_at_call 109; refine he.mono ?_; rintro e w2 ⟨rfl, b2⟩)
      go_ret
      exact ⟨by rw [HF.out]; rfl, hbx.trans (b2.mono hbx.size)⟩
    · rw [hok] at he
      have HSTM : Hid _ := fun s (hs : s ∈ q) => hstm hok hs
      clear hstm
      have HW : Hid _ := hcb
      clear hcb
      cases hcl : q.all (callOk ps.length)
      · have HF : Hid _ := HB.out (by rw [partOk, hok, hcl]; rfl)
        clear HS HB
        go_wp2_with fail
        go_at_call 109
        refine he.mono ?_
        rintro e w2 ⟨rfl, b2⟩
        have X2 := (b2.block wr.heap.size (by omega)).trans X0
        obtain ⟨c2, f2⟩ := one_cell X2
        have b3 := bx.trans (b2.mono bx.size)
        have hcb := HW.out w2 pl (by omega) HSTM.out (reads3_below r0 b3)
        rw [hcl] at hcb
        clear X2 hcl
        go_wp2_with (go_at_call 110; refine hcb.mono ?_; rintro e w3 ⟨rfl, b4⟩)
        go_ret
        exact ⟨by rw [HF.out]; rfl, hb.trans ((b3.trans (b4.mono b3.size)).mono hb.size)⟩
      · have HF : Hid ((ps.take (k + 1)).all (partOk ps.length) = true) := HS.out.trans (by rw [partOk, hok, hcl]; rfl)
        clear HS HB
        go_wp2_with fail
        go_at_call 109
        refine he.mono ?_
        rintro e w2 ⟨rfl, b2⟩
        have X2 := (b2.block wr.heap.size (by omega)).trans X0
        obtain ⟨c2, f2⟩ := one_cell X2
        have b3 := bx.trans (b2.mono bx.size)
        have hcb := HW.out w2 pl (by omega) HSTM.out (reads3_below r0 b3)
        rw [hcl] at hcb
        clear X2 hcl
        go_wp2_with (go_at_call 110; refine hcb.mono ?_; rintro e w3 ⟨rfl, b4⟩)
        go_roundw
        case rel => exact ⟨k + 1, by omega, by go_num, hb.trans ((b3.trans (b4.mono b3.size)).mono hb.size), HF.out⟩
        case measure => simp [intOf]; omega
  · have hkk : k = ps.length := by omega
    subst hkk
    go_wp2
    go_ret
    have hal := HALL.out
    rw [List.take_length] at hal
    exact ⟨by rw [hal]; rfl, hb⟩

end Go.Proofs.Ytnjbihfceckpfaa

/-
 Chapter 4: what may come next: impl.nextsOf, spec.l4Next, and who asks: l4In, hasStmt.
-/
namespace Go.Proofs.Ytnjbihfceckpfaa
open Go.RowKit
set_option linter.unusedVariables false
set_option maxHeartbeats 1000000

/-- What may come behind a statement that lies at i. -/
def nextsS (s : Stm) (i : Int) : List Int :=
 if s.k = 9 then []
 else if s.k = 7 then (if s.y ≤ i then [s.y, i + 1] else if i + 1 < s.y then [i + 1, s.y] else [i + 1])
 else [i + 1]

theorem nextsS_length (s : Stm) (i : Int) : (nextsS s i).length ≤ 2 := by
 unfold nextsS
 repeat' split
 all_goals simp

theorem made1 (w : World) (a : Int) : (w.alloc (.cells #[.int .i64 a] 2)).ownsRow w.heap.size 2 1 (.slice (some ⟨w.heap.size, 0, none⟩) 1 1) 1 [.int .i64 a] :=
 World.ownsRow_lit w #[.int .i64 a] 1 (size := 1) (Nat.le_refl _) (by decide) (by simp)

theorem made2 (w : World) (a b : Int) : (w.alloc (.cells #[.int .i64 a, .int .i64 b] 2)).ownsRow w.heap.size 2 1 (.slice (some ⟨w.heap.size, 0, none⟩) 2 2) 2 [.int .i64 a, .int .i64 b] :=
 World.ownsRow_lit w #[.int .i64 a, .int .i64 b] 2 (size := 1) (Nat.le_refl _) (by decide) (by simp)

theorem made1_at {w : World} {n base : Nat} (hn : w.heap.size = n) (hb : base ≤ n) (a : Int) : (w.alloc (.cells #[.int .i64 a] 2)).ownsRow base 2 1 (.slice (some ⟨n, 0, none⟩) 1 1) 1 [.int .i64 a] := by
 subst hn
 exact own_mono (made1 w a) hb

theorem made2_at {w : World} {n base : Nat} (hn : w.heap.size = n) (hb : base ≤ n) (a b : Int) : (w.alloc (.cells #[.int .i64 a, .int .i64 b] 2)).ownsRow base 2 1 (.slice (some ⟨n, 0, none⟩) 2 2) 2 [.int .i64 a, .int .i64 b] := by
 subst hn
 exact own_mono (made2 w a b) hb

theorem nil_own (w : World) (base : Nat) : w.ownsRow base 2 1 (.slice none 0 0) 0 [] := ⟨by simp, .inl ⟨rfl, rfl⟩⟩

theorem nextsOf (ss : List Stm) (i : Nat) (v : Value) (w : World) (hi : i < ss.length) (hl : ss.length ≤ 12) (hv : Reads3 w v ss) :
 Calls Try.prog 124 #[.agg #[v], .int .i64 i] w fun e w' => ∃ u, e = .returned u ∧ w'.ownsRow w.heap.size 2 1 u (nextsS ss[i] i).length (ints (nextsS ss[i] i)) ∧ Below w.heap.size w w' := by
 obtain ⟨ao, cap, rfl, hc⟩ := hv
 obtain ⟨g, off, rfl, p0, p1, p2⟩ := hc i ss[i] (by simp [hi])
 have pB := World.block_lt_of_cell? w _ p0
 have hi' : (i : Int) < (ss.length : Int) := by omega
 have hl' : (ss.length : Int) ≤ 12 := by omega
 clear hc
 generalize ss[i] = s at *
 obtain ⟨sk, sx, sy⟩ := s
 simp only at p0 p1 p2
 unfold nextsS
 simp only
 by_cases h9 : sk = 9
 · subst h9
   simp only [if_true]
   go_enter Try.func124, Try.ntmps124
   go_wp2
   go_ret
   exact ⟨_, rfl, nil_own _ _, by go_grown⟩
 have h9' : (sk == 9) = false := by simpa using h9
 rw [if_neg h9]
 by_cases h7 : sk = 7
 · subst h7
   rw [if_pos rfl]
   clear h9 h9'
   by_cases hy : sy ≤ i
   · rw [if_pos hy]
     go_enter Try.func124, Try.ntmps124
     go_wp2
     go_ret
     exact ⟨.slice (some ⟨w.heap.size + 1 + 1, 0, none⟩) 2 2, rfl, made2_at (by simp) (by omega) _ _, by go_grown⟩
   rw [if_neg hy]
   by_cases hy2 : (i : Int) + 1 < sy
   · rw [if_pos hy2]
     go_enter Try.func124, Try.ntmps124
     go_wp2
     go_ret
     exact ⟨.slice (some ⟨w.heap.size + 1 + 1, 0, none⟩) 2 2, rfl, made2_at (by simp) (by omega) _ _, by go_grown⟩
   · rw [if_neg hy2]
     go_enter Try.func124, Try.ntmps124
     go_wp2
     go_ret
     exact ⟨.slice (some ⟨w.heap.size + 1 + 1, 0, none⟩) 1 1, rfl, made1_at (by simp) (by omega) _, by go_grown⟩
 · have h7' : (sk == 7) = false := by simpa using h7
   rw [if_neg h7]
   go_enter Try.func124, Try.ntmps124
   go_wp2
   go_ret
   exact ⟨.slice (some ⟨w.heap.size + 1 + 1, 0, none⟩) 1 1, rfl, made1_at (by simp) (by omega) _, by go_grown⟩

theorem procOk_parts {ss : List Stm} (h : procOk ss = true) : 1 ≤ ss.length ∧ ss.length ≤ 12 ∧ (∀ (i : Nat) (hi : i < ss.length), stmOk ss.length ss[i] = true ∧ (ss[i].k ≠ 9 → i + 1 < ss.length)) := by
 unfold procOk at h
 simp only [Bool.and_eq_true, decide_eq_true_eq] at h
 obtain ⟨⟨⟨h1, h2⟩, h3⟩, h4⟩ := h
 refine ⟨h1, h2, fun i hi => ⟨List.all_eq_true.1 h4 _ (List.getElem_mem hi), fun h9 => ?_⟩⟩
 rcases Nat.lt_or_ge (i + 1) ss.length with h | h
 · exact h
 · have : i = ss.length - 1 := by omega
   subst this
   simp [hi, h9] at h3

theorem stmOk_jump {n : Nat} {s : Stm} (h : stmOk n s = true) (h7 : s.k = 7) : 0 ≤ s.y ∧ s.y < n := by
 unfold stmOk at h
 simp only [Bool.and_eq_true] at h
 obtain ⟨h1, h2⟩ := h
 rw [h7] at h1
 refine ⟨stmtOk_jump h1, ?_⟩
 simpa [h7] using h2

/-- What may come next lies within. -/
theorem nextsS_in {ss : List Stm} (h : procOk ss = true) {i : Nat} (hi : i < ss.length) : ∀ x ∈ nextsS ss[i] i, ∃ j : Nat, x = (j : Int) ∧ j < ss.length := by
 obtain ⟨_, _, h3⟩ := procOk_parts h
 obtain ⟨h4, h5⟩ := h3 i hi
 intro x hx
 unfold nextsS at hx
 by_cases h9 : ss[i].k = 9
 · simp [h9] at hx
 rw [if_neg h9] at hx
 have hn : ∃ j : Nat, ((i : Int) + 1) = (j : Int) ∧ j < ss.length := ⟨i + 1, by omega, h5 h9⟩
 by_cases h7 : ss[i].k = 7
 · rw [if_pos h7] at hx
   obtain ⟨y0, y1⟩ := stmOk_jump h4 h7
   have hy : ∃ j : Nat, ss[i].y = (j : Int) ∧ j < ss.length := ⟨ss[i].y.toNat, by omega, by omega⟩
   split at hx
   · simp at hx; rcases hx with rfl | rfl <;> assumption
   · split at hx
     · simp at hx; rcases hx with rfl | rfl <;> assumption
     · simp at hx; subst hx; assumption
 · rw [if_neg h7] at hx
   simp at hx; subst hx; assumption

theorem ins_len1 (n : Int) : (ins n []).length ≤ 1 := by simp [ins]

theorem three_cells' {w : World} {b : Nat} {x0 x1 x2 : Value} {T : TypeId} (h : w.heap[b]? = some (.cells #[x0, x1, x2] T (0, 0))) :
 w.cell? ⟨b, 0, none⟩ = some x0 ∧ w.cell? ⟨b, 1, none⟩ = some x1 ∧ w.cell? ⟨b, 2, none⟩ = some x2 ∧
  w.frozen? ⟨b, 0, none⟩ = false ∧ w.frozen? ⟨b, 1, none⟩ = false ∧ w.frozen? ⟨b, 2, none⟩ = false := by
 refine ⟨?_, ?_, ?_, ?_, ?_, ?_⟩ <;> simp [World.cell?, World.frozen?, h]

theorem l4Next (ss : List Stm) (i : Nat) (v : Value) (w : World) (hok : procOk ss = true) (hi : i < ss.length) (hv : Reads3 w v ss) :
 Calls Try.prog 100 #[.agg #[v], .int .i64 i] w fun e w' => ∃ g cap, e = .returned (.slice (some ⟨g, 0, none⟩) (nextsS ss[i] i).length cap) ∧
  w'.ownsRow w.heap.size 2 1 (.slice (some ⟨g, 0, none⟩) (nextsS ss[i] i).length cap) (nextsS ss[i] i).length (ints (nextsS ss[i] i)) ∧ Below w.heap.size w w' := by
 obtain ⟨_, hl, h3⟩ := procOk_parts hok
 obtain ⟨h4, h5⟩ := h3 i hi
 obtain ⟨ao, cap, rfl, hc⟩ := hv
 obtain ⟨g, off, rfl, p0, p1, p2⟩ := hc i ss[i] (by simp [hi])
 have pB := World.block_lt_of_cell? w _ p0
 have hi' : (i : Int) < (ss.length : Int) := by omega
 have hl' : (ss.length : Int) ≤ 12 := by omega
 clear hc h3 h4 hok
 generalize ss[i] = s at *
 obtain ⟨sk, sx, sy⟩ := s
 simp only at p0 p1 p2 h5
 unfold nextsS
 simp only
 obtain ⟨W0, hW0⟩ : ∃ W0, (w.alloc (.cells #[.slice (some ⟨g, off, none⟩) ss.length cap] 81)).alloc (.cells #[.int .i64 sk, .int .i64 sx, .int .i64 sy] 92) = W0 := ⟨_, rfl⟩
 have s0 : W0.heap.size = w.heap.size + 1 + 1 := by rw [← hW0]; simp
 have b0 : Below w.heap.size w W0 := by rw [← hW0]; go_grown
 have m0 : (W0.alloc (.cells #[] 2)).ownsRow w.heap.size 2 1 (.slice (some ⟨w.heap.size + 1 + 1, 0, none⟩) 0 0) 0 [] := by
  have := own_mono (made0 W0) (base' := w.heap.size) (by omega)
  rwa [s0] at this
 have HW : Hid ((w.alloc (.cells #[.slice (some ⟨g, off, none⟩) ss.length cap] 81)).alloc (.cells #[.int .i64 sk, .int .i64 sx, .int .i64 sy] 92) = W0) := hW0
 have C0 : Hid (W0.heap[w.heap.size + 1]? = some (.cells #[.int .i64 sk, .int .i64 sx, .int .i64 sy] 92 (0, 0))) := by
  show W0.heap[w.heap.size + 1]? = some (.cells #[.int .i64 sk, .int .i64 sx, .int .i64 sy] 92 (0, 0))
  rw [← hW0]
  have := heap_alloc_new (w.alloc (.cells #[.slice (some ⟨g, off, none⟩) ss.length cap] 81)) (.cells #[.int .i64 sk, .int .i64 sx, .int .i64 sy] 92)
  simpa using this
 clear hW0
 by_cases h9 : sk = 9
 · subst h9
   rw [if_pos rfl]
   go_enter Try.func100, Try.ntmps100
   go_wp2
   go_ret
   exact ⟨w.heap.size + 1 + 1, 0, rfl, by rw [HW.out]; exact m0, by go_grown⟩
 have h9' : (sk == 9) = false := by simpa using h9
 rw [if_neg h9]
 have hn : (i : Int) + 1 < (ss.length : Int) := by have := h5 h9; omega
 have hp1 := l1Put [] (i + 1) (w.heap.size + 1 + 1) 0 w.heap.size (W0.alloc (.cells #[] 2)) (by simp) (by simp; omega) m0
 by_cases h7 : sk = 7
 · subst h7
   rw [if_pos rfl]
   clear h9 h9' h5
   have hins : ins sy (ins ((i : Int) + 1) []) = (if sy ≤ i then [sy, (i : Int) + 1] else if (i : Int) + 1 < sy then [(i : Int) + 1, sy] else [(i : Int) + 1]) := by
    simp only [ins]
    by_cases h1 : sy ≤ i
    · rw [if_pos h1, if_neg (by omega), if_neg (by omega)]
    · rw [if_neg h1]
      by_cases h2 : (i : Int) + 1 < sy
      · rw [if_pos h2, if_pos h2]
      · rw [if_neg h2, if_neg h2, if_pos (by omega)]
   rw [← hins]
   have HI : Hid _ := hins
   clear hins
   have hlen := ins_len1 ((i : Int) + 1)
   generalize ins ((i : Int) + 1) [] = xs at *
   go_enter Try.func100, Try.ntmps100
   go_wp2_with fail
   go_at_call 134
   rw [HW.out]
   refine hp1.mono ?_
   rintro e w1 ⟨g1, c1, rfl, own1, b1⟩
   have L1 : Below w.heap.size w w1 := (b0.alloc (by omega) _).trans (b1.mono (by simp; omega))
   obtain ⟨x0, x1, x2, _⟩ := three_cells' ((b1.block (w.heap.size + 1) (by simp; omega)).trans ((old_block (by omega)).trans C0.out))
   have hp2 := l1Put xs sy g1 c1 w.heap.size w1 (by omega) L1.size own1
   clear hp1
   go_wp2_with fail
   go_at_call 134
   refine hp2.mono ?_
   rintro e w2 ⟨g2, c2, rfl, own2, b2⟩
   clear hp2
   go_wp2
   go_ret
   exact ⟨g2, c2, rfl, own2, L1.trans (b2.mono L1.size)⟩
 · have h7' : (sk == 7) = false := by simpa using h7
   rw [if_neg h7]
   go_enter Try.func100, Try.ntmps100
   go_wp2_with fail
   go_at_call 134
   rw [HW.out]
   refine hp1.mono ?_
   rintro e w1 ⟨g1, c1, rfl, own1, b1⟩
   have L1 : Below w.heap.size w w1 := (b0.alloc (by omega) _).trans (b1.mono (by simp; omega))
   obtain ⟨x0, x1, x2, _⟩ := three_cells' ((b1.block (w.heap.size + 1) (by simp; omega)).trans ((old_block (by omega)).trans C0.out))
   clear hp1
   go_wp2
   go_ret
   exact ⟨g1, c1, rfl, own1, L1⟩

end Go.Proofs.Ytnjbihfceckpfaa
