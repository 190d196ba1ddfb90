/-
  Put together out of: MarkStm, MarkProg.
-/
import Derived.Test.YtnjbihfceckpfaaProc
import Derived.Test.YtnjbihfceckpfaaProgs
/-
  markStmtS, markProc: they write into the rows of statements alone.
-/
namespace Go.Proofs.Ytnjbihfceckpfaa
open Go.RowKit
set_option linter.unusedVariables false
set_option maxHeartbeats 1000000

/-- Only rows of statements from block base on and below top have been written into. -/
structure Marks (base top : Nat) (w w' : World) : Prop where
  os : w'.os = w.os
  tape : w'.tape = w.tape
  output : w'.output = w.output
  size : w.heap.size ≤ w'.heap.size
  out : ∀ k, k < w.heap.size → k < base ∨ top ≤ k → w'.heap[k]? = w.heap[k]?
  other : ∀ (g : Nat) (cur : Array Value) (t : TypeId) (f : Nat × Nat), w.heap[g]? = some (Obj.cells cur t f) → t ≠ 92 → w'.heap[g]? = some (Obj.cells cur t f)
  stm : ∀ (g : Nat) (cur : Array Value), w.heap[g]? = some (Obj.cells cur 92 (0, 0)) → ∃ cur' : Array Value, w'.heap[g]? = some (Obj.cells cur' 92 (0, 0)) ∧ cur'.size = cur.size

theorem Marks.refl (base top : Nat) (w : World) : Marks base top w w := ⟨rfl, rfl, rfl, Nat.le_refl _, fun _ _ _ => rfl, fun _ _ _ _ h _ => h, fun _ cur h => ⟨cur, h, rfl⟩⟩

theorem Marks.trans {base top : Nat} {a b c : World} (h : Marks base top a b) (k : Marks base top b c) : Marks base top a c :=
  ⟨k.os.trans h.os, k.tape.trans h.tape, k.output.trans h.output, Nat.le_trans h.size k.size, fun i hi ho => (k.out i (Nat.lt_of_lt_of_le hi h.size) ho).trans (h.out i hi ho),
    fun g cur t f hg ht => k.other g cur t f (h.other g cur t f hg ht) ht, fun g cur hg => by
      obtain ⟨c1, h1, s1⟩ := h.stm g cur hg
      obtain ⟨c2, h2, s2⟩ := k.stm g c1 h1
      exact ⟨c2, h2, s2.trans s1⟩⟩

theorem Marks.setCell {base top : Nat} {a w : World} (h : Marks base top a w) {g j : Nat} {cur : Array Value} (hg : w.heap[g]? = some (.cells cur 92 (0, 0))) (hb : base ≤ g) (ht : g < top) (u : Value) : Marks base top a (w.setCell ⟨g, j, none⟩ u) := by
  refine h.trans ⟨rfl, rfl, rfl, by simp [World.setCell], fun k _ hk => Below.heap_setCell _ _ _ _ (by simp; omega), fun g' cur' t f hg' ht' => ?_, fun g' cur' hg' => ?_⟩
  · by_cases e : g' = g
    · subst e
      rw [hg] at hg'
      simp at hg'
      exact absurd hg'.2.1.symm ht'
    · rw [Below.heap_setCell _ _ _ _ e]; exact hg'
  · by_cases e : g' = g
    · subst e
      rw [hg] at hg'
      simp only [Option.some.injEq, Obj.cells.injEq] at hg'
      obtain ⟨rfl, _⟩ := hg'
      exact ⟨_, heap_setCell_same w g' j cur _ u hg, by simp⟩
    · exact ⟨cur', by rw [Below.heap_setCell _ _ _ _ e]; exact hg', rfl⟩

/-- A new block. -/
theorem Marks.alloc {base top : Nat} {a w : World} (h : Marks base top a w) (o : Obj) : Marks base top a (w.alloc o) := by
  refine h.trans ⟨rfl, rfl, rfl, by simp, fun k hk _ => old_block hk, fun g cur t f hg _ => ?_, fun g cur hg => ⟨cur, ?_, rfl⟩⟩
  · rw [old_block (Array.getElem?_eq_some_iff.1 hg).1]; exact hg
  · rw [old_block (Array.getElem?_eq_some_iff.1 hg).1]; exact hg

/-- A row of n statements that may be written into. -/
def Room (base top : Nat) (w : World) (u : Value) (n : Nat) : Prop :=
  (u = .slice none 0 0 ∧ n = 0) ∨ ∃ (g cap : Nat) (cur : Array Value), u = .slice (some ⟨g, 0, none⟩) n cap ∧ w.heap[g]? = some (Obj.cells cur 92 (0, 0)) ∧ n * 3 ≤ cur.size ∧ base ≤ g ∧ g < top

theorem Room.kept {base top : Nat} {w w' : World} {u : Value} {n : Nat} (h : Room base top w u n) (hm : Marks base top w w') : Room base top w' u n := by
  rcases h with h | ⟨g, cap, cur, rfl, hg, hs, h1, h2⟩
  · exact .inl h
  · obtain ⟨c, hc, hz⟩ := hm.stm g cur hg
    exact .inr ⟨g, cap, c, rfl, hc, by omega, h1, h2⟩

theorem room_own {base top : Nat} {w : World} {u : Value} {n : Nat} {xs : List Value} (h : w.ownsRow base 92 3 u n xs) (ht : ∀ k, u.ownBlock = some k → k < top) : Room base top w u n := by
  rcases h.2 with h0 | ⟨g, cap, cur, rfl, hb, hg, hn, hm, hs, _⟩
  · exact .inl h0
  · exact .inr ⟨g, cap, cur, rfl, hg, by rw [hs]; exact Nat.mul_le_mul_right _ hn, hb, ht g rfl⟩

theorem row_at {w : World} {g j : Nat} {cur : Array Value} {t : TypeId} (hg : w.heap[g]? = some (.cells cur t (0, 0))) (hj : j < cur.size) : (∃ x, w.cell? ⟨g, j, none⟩ = some x) ∧ w.frozen? ⟨g, j, none⟩ = false := by
  refine ⟨⟨cur[j], ?_⟩, frozen_of_row w g j cur t hg⟩
  rw [cell_of_row w g j cur t (0, 0) hg]
  simp [hj]

theorem markStmtS (n : Nat) (u : Value) (base top : Nat) (k : Int) (w : World) (hn : n ≤ 1048576) (h1 : 0 ≤ k) (h2 : k ≤ 1099511627776000) (hv : Room base top w u n) :
    Calls Try.prog 79 #[u, .int .i64 k] w fun e w' => e = .returned (.int .i64 (k + 3 * n)) ∧ Marks base top w w' := by
  rcases hv with ⟨rfl, rfl⟩ | ⟨g, cap, cur, rfl, hg, hs, hb, ht⟩
  · go_enter Try.func79, Try.ntmps79
    go_wp2
    refine wp_loop_rounds 1 ?_
    rw [rounds_succ]
    go_wp2
    go_ret
    exact ⟨ret_int (by simp), Marks.refl _ _ _⟩
  · go_enter Try.func79, Try.ntmps79
    go_wp2
    go_loopw [1, 5] (fun q i wr => ∃ j : Nat, j ≤ n ∧ i = .int .i64 j ∧ q = .int .i64 (k + 3 * j) ∧ Marks base top w wr) (fun _ i _ => n - (intOf i).toNat)
    case atStart => exact ⟨0, Nat.zero_le _, rfl, by simp, Marks.refl _ _ _⟩
    case round =>
      obtain ⟨j, hj, rfl, rfl, hm⟩ := hrel
      by_cases hlt : j < n
      · have hlt' : (j : Int) < (n : Int) := by omega
        obtain ⟨c0, hc0, hz0⟩ := hm.stm g cur hg
        obtain ⟨⟨x0, a0⟩, f0⟩ := row_at hc0 (j := j * 3) (by omega)
        obtain ⟨⟨x1, a1⟩, f1⟩ := row_at hc0 (j := j * 3 + 1) (by omega)
        obtain ⟨⟨x2, a2⟩, f2⟩ := row_at hc0 (j := j * 3 + 2) (by omega)
        have hc1 := heap_setCell_same wr g (j * 3) c0 _ (.int .i64 (k + 3 * j)) hc0
        have hc2 := heap_setCell_same _ g (j * 3 + 1) _ _ (.int .i64 (k + 3 * j + 1)) hc1
        have M : Hid (Marks base top w (((wr.setCell ⟨g, j * 3, none⟩ (.int .i64 (k + 3 * j))).setCell ⟨g, j * 3 + 1, none⟩ (.int .i64 (k + 3 * j + 1))).setCell ⟨g, j * 3 + 2, none⟩ (.int .i64 (k + 3 * j + 1 + 1)))) :=
          ((hm.setCell hc0 hb ht _).setCell hc1 hb ht _).setCell hc2 hb ht _
        clear hc0 hc1 hc2 hg
        go_wp2
        go_roundw
        case rel => exact ⟨j + 1, by omega, by go_num, by go_num, M.out⟩
        case measure => simp [intOf]; omega
      · have hjj : j = n := by omega
        subst hjj
        go_wp2
        go_ret
        exact ⟨rfl, hm⟩

theorem Marks.below {base top B : Nat} {w w' : World} (h : Marks base top w w') (hB : B ≤ base) (hs : B ≤ w.heap.size) : Below B w w' :=
  ⟨h.os, h.tape, h.output, h.size, fun k hk => h.out k (by omega) (.inl (by omega))⟩

/-- A row that lies elsewhere stays. -/
theorem own_marks {base top b : Nat} {e : TypeId} {s : Nat} {v : Value} {n : Nat} {xs : List Value} {w w' : World} (h : w.ownsRow b e s v n xs) (hm : Marks base top w w') (hb : ∀ k, v.ownBlock = some k → k < base ∨ top ≤ k) : w'.ownsRow b e s v n xs := by
  refine ⟨h.1, ?_⟩
  rcases h.2 with hn | ⟨g, cap, cur, rfl, hbg, hg, r⟩
  · exact .inl hn
  · exact .inr ⟨g, cap, cur, rfl, hbg, by rw [hm.out g (Array.getElem?_eq_some_iff.1 hg).1 (hb g rfl)]; exact hg, r⟩


end Go.Proofs.Ytnjbihfceckpfaa

/-
  markProcS, markProgram: they write into the rows of statements alone.
-/
namespace Go.Proofs.Ytnjbihfceckpfaa
open Go.RowKit
set_option linter.unusedVariables false
set_option maxHeartbeats 1000000

theorem markProcSR (ps : List (List Stm)) (v : Value) (base top : Nat) (w : World) (hl : ps.length ≤ 1048576) (hp : ∀ p ∈ ps, p.length ≤ 1048576) (hv : OwnP w base top v ps) :
    Calls Try.prog 47 #[v, .int .i64 1] w fun e w' => ∃ r : Int, e = .returned (.int .i64 r) ∧ (1 ≤ r ∧ r ≤ 4000000000000) ∧ Marks base top w w' := by
  obtain ⟨us, ho, ht, hu⟩ := hv
  have hul := ho.1
  simp only [Nat.mul_one] at hul
  have room : ∀ (j : Nat) (h : j < ps.length) (h' : j < us.length), Room base top w us[j] ps[j].length := fun j h h' =>
    room_own (hu j us[j] ps[j] (by simp [h']) (by simp [h])).1 (hu j us[j] ps[j] (by simp [h']) (by simp [h])).2
  have hcell : ∀ (g j : Nat) (cap : Nat), v = .slice (some ⟨g, 0, none⟩) ps.length cap → (h : j < us.length) → w.cell? ⟨g, j, none⟩ = some us[j] := by
    rintro g j cap rfl h
    rw [ho.cellAt j (by omega)]
    simp [h]
  rcases ho.2 with ⟨rfl, h0⟩ | ⟨g, cap, cur, rfl, hbg, hg, _⟩
  · have hx : ps = [] := List.eq_nil_of_length_eq_zero h0
    subst hx
    clear hcell room
    go_enter Try.func47, Try.ntmps47
    go_wp2
    refine wp_loop_rounds 1 ?_
    rw [rounds_succ]
    go_wp2
    go_ret
    exact ⟨1, rfl, by omega, Marks.refl _ _ _⟩
  · have hcell := fun j h => hcell g j cap rfl h
    clear hu ho
    have HG : Hid _ := hg
    clear hg
    go_enter Try.func47, Try.ntmps47
    go_wp2
    go_loopw [1, 5] (fun q i wr => ∃ (j : Nat) (r : Int), j ≤ ps.length ∧ i = .int .i64 j ∧ q = .int .i64 r ∧ 1 ≤ r ∧ r ≤ 1 + 3145728 * j ∧ Marks base top w wr) (fun _ i _ => ps.length - (intOf i).toNat)
    case atStart => exact ⟨0, 1, Nat.zero_le _, rfl, rfl, by omega, by omega, Marks.refl _ _ _⟩
    case round =>
      obtain ⟨j, r, hj, rfl, rfl, hr0, hr1, hm⟩ := hrel
      by_cases hlt : j < ps.length
      · have hlt' : (j : Int) < (ps.length : Int) := by omega
        have hju : j < us.length := by omega
        have pl := hp ps[j] (List.getElem_mem hlt)
        have hrm := (room j hlt hju).kept hm
        have hc1 := hcell j hju
        have hgr := hm.other g _ _ _ HG.out (by decide)
        have hc2 : wr.cell? ⟨g, j, none⟩ = some us[j] := by
          rw [← hc1]
          exact World.cell?_of_block (hgr.trans HG.out.symm)
        clear hc1 hgr room hcell
        have hmk := markStmtS ps[j].length us[j] base top r wr pl (by omega) (by omega) hrm
        generalize ps[j].length = n at *
        generalize us[j] = u at *
        obtain ⟨ua, un, uc, rfl⟩ : ∃ a m c, u = .slice a m c := by
          rcases hrm with ⟨rfl, _⟩ | ⟨_, _, _, rfl, _⟩
          · exact ⟨_, _, _, rfl⟩
          · exact ⟨_, _, _, rfl⟩
        clear hrm
        go_wp2_with fail
        go_at_call 79
        refine hmk.mono ?_
        rintro e w2 ⟨rfl, m2⟩
        clear hmk
        go_wp2
        go_roundw
        case rel => exact ⟨j + 1, r + 3 * n, by omega, by go_num, rfl, by omega, by omega, hm.trans m2⟩
        case measure => simp [intOf]; omega
      · have hjj : j = ps.length := by omega
        subst hjj
        clear room hcell
        go_wp2
        go_ret
        exact ⟨r, rfl, ⟨hr0, by omega⟩, hm⟩

theorem markProcS (ps : List (List Stm)) (v : Value) (base top : Nat) (w : World) (hl : ps.length ≤ 1048576) (hp : ∀ p ∈ ps, p.length ≤ 1048576) (hv : OwnP w base top v ps) :
    Calls Try.prog 47 #[v, .int .i64 1] w fun e w' => ∃ r : Int, e = .returned (.int .i64 r) ∧ 0 ≤ r ∧ Marks base top w w' :=
  (markProcSR ps v base top w hl hp hv).mono (fun e w' ⟨r, h1, h2, h3⟩ => ⟨r, h1, by omega, h3⟩)

theorem markProgramR (ps : List (List Stm)) (v : Value) (base top : Nat) (w : World) (hl : ps.length ≤ 1048576) (hp : ∀ p ∈ ps, p.length ≤ 1048576) (hv : OwnP w base top v ps) :
    Calls Try.prog 15 #[.agg #[v], .int .i64 1] w fun e w' => ∃ r : Int, e = .returned (.int .i64 r) ∧ (1 ≤ r ∧ r ≤ 4000000000000) ∧ Marks base top w w' := by
  have hb0 : Below w.heap.size w (w.alloc (.cells #[v] 30)) := by go_grown
  have hm := markProcSR ps v base top _ hl hp (ownP_kept hv hb0)
  go_enter Try.func15, Try.ntmps15
  go_wp2_with fail
  go_at_call 47
  refine hm.mono ?_
  rintro e w1 ⟨r, rfl, hr, m1⟩
  go_wp2
  go_ret
  exact ⟨r, rfl, hr, ((Marks.refl base top w).alloc _).trans m1⟩

theorem markProgram (ps : List (List Stm)) (v : Value) (base top : Nat) (w : World) (hl : ps.length ≤ 1048576) (hp : ∀ p ∈ ps, p.length ≤ 1048576) (hv : OwnP w base top v ps) :
    Calls Try.prog 15 #[.agg #[v], .int .i64 1] w fun e w' => ∃ r : Int, e = .returned (.int .i64 r) ∧ 0 ≤ r ∧ Marks base top w w' :=
  (markProgramR ps v base top w hl hp hv).mono (fun e w' ⟨r, h1, h2, h3⟩ => ⟨r, h1, by omega, h3⟩)

end Go.Proofs.Ytnjbihfceckpfaa
