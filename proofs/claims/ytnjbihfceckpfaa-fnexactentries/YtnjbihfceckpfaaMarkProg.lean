/-
  markProcS, markProgram: they write into the rows of statements alone.
-/
import Derived.Test.YtnjbihfceckpfaaProgs
import Derived.Test.YtnjbihfceckpfaaMarkStm
namespace Go.Proofs.Ytnjbihfceckpfaa
open Go.RowKit
set_option linter.unusedVariables false
set_option maxHeartbeats 1000000

theorem markProcSR (ps : List (List Stm)) (v : Value) (base top : Nat) (w : World) (hl : ps.length ≤ 1048576) (hp : ∀ p ∈ ps, p.length ≤ 1048576) (hv : OwnP w base top v ps) :
    Calls Try.prog 47 #[v, .int .i64 1] w fun e w' => ∃ r : Int, e = .returned (.int .i64 r) ∧ (1 ≤ r ∧ r ≤ 4000000000000) ∧ Marks base top w w' := by
  obtain ⟨us, ho, ht, hu⟩ := hv
  have hul := ho.1
  simp only [Nat.mul_one] at hul
  have room : ∀ (j : Nat) (h : j < ps.length) (h' : j < us.length), Room base top w us[j] ps[j].length := fun j h h' =>
    room_own (hu j us[j] ps[j] (by simp [h']) (by simp [h])).1 (hu j us[j] ps[j] (by simp [h']) (by simp [h])).2
  have hcell : ∀ (g j : Nat) (cap : Nat), v = .slice (some ⟨g, 0, none⟩) ps.length cap → (h : j < us.length) → w.cell? ⟨g, j, none⟩ = some us[j] := by
    rintro g j cap rfl h
    rw [ho.cellAt j (by omega)]
    simp [h]
  rcases ho.2 with ⟨rfl, h0⟩ | ⟨g, cap, cur, rfl, hbg, hg, _⟩
  · have hx : ps = [] := List.eq_nil_of_length_eq_zero h0
    subst hx
    clear hcell room
    go_enter Try.func47, Try.ntmps47
    go_wp2
    refine wp_loop_rounds 1 ?_
    rw [rounds_succ]
    go_wp2
    go_ret
    exact ⟨1, rfl, by omega, Marks.refl _ _ _⟩
  · have hcell := fun j h => hcell g j cap rfl h
    clear hu ho
    have HG : Hid _ := hg
    clear hg
    go_enter Try.func47, Try.ntmps47
    go_wp2
    go_loopw [1, 5] (fun q i wr => ∃ (j : Nat) (r : Int), j ≤ ps.length ∧ i = .int .i64 j ∧ q = .int .i64 r ∧ 1 ≤ r ∧ r ≤ 1 + 3145728 * j ∧ Marks base top w wr) (fun _ i _ => ps.length - (intOf i).toNat)
    case atStart => exact ⟨0, 1, Nat.zero_le _, rfl, rfl, by omega, by omega, Marks.refl _ _ _⟩
    case round =>
      obtain ⟨j, r, hj, rfl, rfl, hr0, hr1, hm⟩ := hrel
      by_cases hlt : j < ps.length
      · have hlt' : (j : Int) < (ps.length : Int) := by omega
        have hju : j < us.length := by omega
        have pl := hp ps[j] (List.getElem_mem hlt)
        have hrm := (room j hlt hju).kept hm
        have hc1 := hcell j hju
        have hgr := hm.other g _ _ _ HG.out (by decide)
        have hc2 : wr.cell? ⟨g, j, none⟩ = some us[j] := by
          rw [← hc1]
          exact World.cell?_of_block (hgr.trans HG.out.symm)
        clear hc1 hgr room hcell
        have hmk := markStmtS ps[j].length us[j] base top r wr pl (by omega) (by omega) hrm
        generalize ps[j].length = n at *
        generalize us[j] = u at *
        obtain ⟨ua, un, uc, rfl⟩ : ∃ a m c, u = .slice a m c := by
          rcases hrm with ⟨rfl, _⟩ | ⟨_, _, _, rfl, _⟩
          · exact ⟨_, _, _, rfl⟩
          · exact ⟨_, _, _, rfl⟩
        clear hrm
        go_wp2_with fail
        go_at_call 79
        refine hmk.mono ?_
        rintro e w2 ⟨rfl, m2⟩
        clear hmk
        go_wp2
        go_roundw
        case rel => exact ⟨j + 1, r + 3 * n, by omega, by go_num, rfl, by omega, by omega, hm.trans m2⟩
        case measure => simp [intOf]; omega
      · have hjj : j = ps.length := by omega
        subst hjj
        clear room hcell
        go_wp2
        go_ret
        exact ⟨r, rfl, ⟨hr0, by omega⟩, hm⟩

theorem markProcS (ps : List (List Stm)) (v : Value) (base top : Nat) (w : World) (hl : ps.length ≤ 1048576) (hp : ∀ p ∈ ps, p.length ≤ 1048576) (hv : OwnP w base top v ps) :
    Calls Try.prog 47 #[v, .int .i64 1] w fun e w' => ∃ r : Int, e = .returned (.int .i64 r) ∧ 0 ≤ r ∧ Marks base top w w' :=
  (markProcSR ps v base top w hl hp hv).mono (fun e w' ⟨r, h1, h2, h3⟩ => ⟨r, h1, by omega, h3⟩)

theorem markProgramR (ps : List (List Stm)) (v : Value) (base top : Nat) (w : World) (hl : ps.length ≤ 1048576) (hp : ∀ p ∈ ps, p.length ≤ 1048576) (hv : OwnP w base top v ps) :
    Calls Try.prog 15 #[.agg #[v], .int .i64 1] w fun e w' => ∃ r : Int, e = .returned (.int .i64 r) ∧ (1 ≤ r ∧ r ≤ 4000000000000) ∧ Marks base top w w' := by
  have hb0 : Below w.heap.size w (w.alloc (.cells #[v] 30)) := by go_grown
  have hm := markProcSR ps v base top _ hl hp (ownP_kept hv hb0)
  go_enter Try.func15, Try.ntmps15
  go_wp2_with fail
  go_at_call 47
  refine hm.mono ?_
  rintro e w1 ⟨r, rfl, hr, m1⟩
  go_wp2
  go_ret
  exact ⟨r, rfl, hr, ((Marks.refl base top w).alloc _).trans m1⟩

theorem markProgram (ps : List (List Stm)) (v : Value) (base top : Nat) (w : World) (hl : ps.length ≤ 1048576) (hp : ∀ p ∈ ps, p.length ≤ 1048576) (hv : OwnP w base top v ps) :
    Calls Try.prog 15 #[.agg #[v], .int .i64 1] w fun e w' => ∃ r : Int, e = .returned (.int .i64 r) ∧ 0 ≤ r ∧ Marks base top w w' :=
  (markProgramR ps v base top w hl hp hv).mono (fun e w' ⟨r, h1, h2, h3⟩ => ⟨r, h1, by omega, h3⟩)

end Go.Proofs.Ytnjbihfceckpfaa
