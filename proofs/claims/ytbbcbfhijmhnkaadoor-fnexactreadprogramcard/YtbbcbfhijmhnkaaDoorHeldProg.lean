/-
  laws.markProgram, laws.heldProgram: the marks of a Program whose rows are apart; laws.toEdit.
-/
import Derived.Test.YtbbcbfhijmhnkaaDoorG46SpecEd
import Derived.Test.YtbbcbfhijmhnkaaDoorMarkProg
namespace Go.Proofs.YtbbcbfhijmhnkaaDoor
open Go.RowKit
set_option linter.unusedVariables false
set_option linter.unusedSimpArgs false
set_option maxHeartbeats 2000000
set_option maxRecDepth 20000

/-- Statements that bear the numbers from k on. -/
def markSt : Int → Nat → List Stm
  | _, 0 => []
  | k, n + 1 => ⟨k, k + 1, k + 2⟩ :: markSt (k + 3) n
theorem markSt_length : ∀ (n : Nat) (k : Int), (markSt k n).length = n
  | 0, k => rfl
  | n + 1, k => by simp [markSt, markSt_length n]
theorem markSt_get : ∀ (n : Nat) (k : Int) (j : Nat), j < n → (markSt k n)[j]? = some ⟨k + 3 * j, k + 3 * j + 1, k + 3 * j + 2⟩
  | 0, k, j, h => by omega
  | n + 1, k, 0, h => by simp [markSt]
  | n + 1, k, j + 1, h => by
    simp only [markSt, List.getElem?_cons_succ]
    rw [markSt_get n (k + 3) j (by omega)]
    congr 2 <;> push_cast <;> omega
/-- The first j bear their marks. -/
def markPart (k : Int) (L : List Stm) (j : Nat) : List Stm := (markSt k L.length).take j ++ L.drop j
theorem markPart_zero (k : Int) (L : List Stm) : markPart k L 0 = L := by simp [markPart]
theorem markPart_all (k : Int) (L : List Stm) : markPart k L L.length = markSt k L.length := by
  unfold markPart
  rw [List.take_of_length_le (by rw [markSt_length]; exact Nat.le_refl _)]
  simp
theorem markPart_length (k : Int) (L : List Stm) (j : Nat) (h : j ≤ L.length) : (markPart k L j).length = L.length := by simp [markPart, markSt_length]; omega
theorem markPart_succ (k : Int) (L : List Stm) (j : Nat) (h : j < L.length) : markPart k L (j + 1) = (markPart k L j).set j ⟨k + 3 * j, k + 3 * j + 1, k + 3 * j + 2⟩ := by
  unfold markPart
  have hl : ((markSt k L.length).take j).length = j := by simp [markSt_length]; omega
  have hg := markSt_get L.length k j h
  obtain ⟨hlt, hge⟩ := List.getElem?_eq_some_iff.1 hg
  rw [List.set_append_right _ _ (by omega), hl, Nat.sub_self, List.drop_eq_getElem_cons h, List.set_cons_zero, List.take_succ_eq_append_getElem hlt, hge, List.append_assoc]
  rfl

theorem markStmtSX (L : List Stm) (u : Value) (base : Nat) (k : Int) (w : World) (hn : L.length ≤ 1048576) (h1 : 0 ≤ k) (h2 : k ≤ 1099511627776000) (hv : w.ownsRow base 36 3 u L.length (cells3 L)) :
    Calls Tryd.prog 28 #[u, .int .i64 k] w fun e w' => e = .returned (.int .i64 (k + 3 * L.length)) ∧ w'.ownsRow base 36 3 u L.length (cells3 (markSt k L.length)) ∧ w.grownBy w' u.ownBlock := by
  rcases hv.2 with ⟨rfl, h0⟩ | ⟨g, cap, cur, rfl, hb, _⟩
  · have hL : L = [] := List.eq_nil_of_length_eq_zero h0
    subst hL
    go_enter Tryd.func28, Tryd.ntmps28
    go_wp2
    refine wp_loop_rounds 1 ?_
    rw [rounds_succ]
    go_wp2
    go_ret
    exact ⟨ret_int (by simp), ⟨rfl, .inl ⟨rfl, rfl⟩⟩, World.grownBy.refl _ _⟩
  · obtain ⟨n, hN⟩ : ∃ n, L.length = n := ⟨_, rfl⟩
    have HN : Hid (L.length = n) := hN
    rw [hN] at hn hv ⊢
    clear hN
    have hv0 : w.ownsRow base 36 3 (.slice (some ⟨g, 0, none⟩) n cap) n (cells3 (markPart k L 0)) := by rw [markPart_zero]; exact hv
    go_enter Tryd.func28, Tryd.ntmps28
    go_wp2
    go_loopw [1, 5] (fun q i wr => ∃ j : Nat, j ≤ n ∧ i = .int .i64 j ∧ q = .int .i64 (k + 3 * j) ∧ wr.ownsRow base 36 3 (.slice (some ⟨g, 0, none⟩) n cap) n (cells3 (markPart k L j)) ∧ w.grownBy wr (some g)) (fun _ i _ => n - (intOf i).toNat)
    case atStart => exact ⟨0, Nat.zero_le _, rfl, by simp, hv0, World.grownBy.refl _ _⟩
    case round =>
      obtain ⟨j, hj, rfl, rfl, own, gr⟩ := hrel
      by_cases hlt : j < n
      · have hlt' : (j : Int) < (n : Int) := by omega
        obtain ⟨x0, a0⟩ := own_cell own (j * 3) (by omega)
        obtain ⟨x1, a1⟩ := own_cell own (j * 3 + 1) (by omega)
        obtain ⟨x2, a2⟩ := own_cell own (j * 3 + 2) (by omega)
        have f0 := own.frozenAt (j * 3)
        have f1 := own.frozenAt (j * 3 + 1)
        have f2 := own.frozenAt (j * 3 + 2)
        have hjL : j < L.length := by rw [HN.out]; exact hlt
        have h3 := (((own.stored (j * 3) (.int .i64 (k + 3 * j))).1.stored (j * 3 + 1) (.int .i64 (k + 3 * j + 1))).1.stored (j * 3 + 2) (.int .i64 (k + 3 * j + 2))).1
        rw [cells3_set3 _ j _ _ _ (by rw [markPart_length _ _ _ (by omega)]; exact hjL), ← markPart_succ k L j hjL] at h3
        have e12 : k + 3 * (j : Int) + 1 + 1 = k + 3 * j + 2 := by omega
        have HO : Hid ((((wr.setCell ⟨g, j * 3, none⟩ (.int .i64 (k + 3 * j))).setCell ⟨g, j * 3 + 1, none⟩ (.int .i64 (k + 3 * j + 1))).setCell ⟨g, j * 3 + 2, none⟩ (.int .i64 (k + 3 * j + 1 + 1))).ownsRow base 36 3 (.slice (some ⟨g, 0, none⟩) n cap) n (cells3 (markPart k L (j + 1)))) := by
          show World.ownsRow _ _ _ _ _ _ _
          rw [e12]; exact h3
        have HG : Hid (w.grownBy (((wr.setCell ⟨g, j * 3, none⟩ (.int .i64 (k + 3 * j))).setCell ⟨g, j * 3 + 1, none⟩ (.int .i64 (k + 3 * j + 1))).setCell ⟨g, j * 3 + 2, none⟩ (.int .i64 (k + 3 * j + 1 + 1))) (some g)) := grown_trans gr (grown_trans (grown_trans (grown_setRow13 _ _ _ _) (grown_setRow13 _ _ _ _)) (grown_setRow13 _ _ _ _))
        clear h3 e12 own gr
        go_wp2
        go_roundw
        case rel => exact ⟨j + 1, by omega, by go_num, by go_num, HO.out, HG.out⟩
        case measure => simp [intOf]; omega
      · have hjj : n = j := by omega
        subst hjj
        have e9 : markPart k L n = markSt k n := by
          have := markPart_all k L
          rw [HN.out] at this
          exact this
        rw [e9] at own
        have HO : Hid _ := own
        clear own
        go_wp2
        go_ret
        exact ⟨rfl, HO.out, gr⟩

theorem heldStmtSX (n : Nat) (u : Value) (base : Nat) (k : Int) (w : World) (hn : n ≤ 1048576) (h1 : 0 ≤ k) (h2 : k ≤ 1099511627776000) (hv : w.ownsRow base 36 3 u n (cells3 (markSt k n))) :
    Calls Tryd.prog 29 #[u, .int .i64 k] w fun e w' => e = .returned (.int .i64 (k + 3 * n)) ∧ Below w.heap.size w w' := by
  have hl := markSt_length n k
  have hrd : Reads3 w u (markSt k n) := reads3_own (by rw [hl]; exact hv)
  obtain ⟨ao, cap, rfl, hc⟩ := hrd
  rw [hl]
  go_enter Tryd.func29, Tryd.ntmps29
  go_wp2
  go_loopw [1, 5] (fun q i wr => ∃ j : Nat, j ≤ n ∧ i = .int .i64 j ∧ q = .int .i64 (k + 3 * j) ∧ w = wr) (fun _ i _ => n - (intOf i).toNat)
  case atStart => exact ⟨0, Nat.zero_le _, rfl, by simp, rfl⟩
  case round =>
    obtain ⟨j, hj, rfl, rfl, rfl⟩ := hrel
    by_cases hlt : j < n
    · have hlt' : (j : Int) < (n : Int) := by omega
      obtain ⟨g, off, rfl, q0, q1, q2⟩ := hc j _ (markSt_get n k j hlt)
      simp only at q0 q1 q2
      have e12 : k + 3 * (j : Int) + 1 + 1 = k + 3 * j + 2 := by omega
      clear hc
      go_wp2
      go_roundw
      case rel => exact ⟨j + 1, by omega, by go_num, by go_num, by trivial⟩
      case measure => simp [intOf]; omega
    · have hjj : n = j := by omega
      subst hjj
      clear hc
      go_wp2
      go_ret
      exact ⟨rfl, Below.refl _ _⟩

/-- Programs that bear the numbers from k on. -/
def tot13 : List (List Stm) → Nat
  | [] => 0
  | p :: ps => p.length + tot13 ps
def marks13 : Int → List (List Stm) → List (List Stm)
  | _, [] => []
  | k, p :: ps => markSt k p.length :: marks13 (k + 3 * p.length) ps
theorem marks13_length : ∀ (ps : List (List Stm)) (k : Int), (marks13 k ps).length = ps.length
  | [], k => rfl
  | p :: ps, k => by simp [marks13, marks13_length ps]
theorem tot13_append : ∀ (a b : List (List Stm)), tot13 (a ++ b) = tot13 a + tot13 b
  | [], b => by simp [tot13]
  | x :: a, b => by simp [tot13, tot13_append a b]; omega
theorem tot13_take (ps : List (List Stm)) (j : Nat) (h : j < ps.length) : tot13 (ps.take (j + 1)) = tot13 (ps.take j) + ps[j].length := by
  rw [List.take_succ_eq_append_getElem h, tot13_append]
  simp [tot13]
theorem tot13_le : ∀ (ps : List (List Stm)), (∀ p ∈ ps, p.length ≤ 1048576) → tot13 ps ≤ 1048576 * ps.length
  | [], _ => by simp [tot13]
  | x :: ps, h => by
    have h1 := tot13_le ps (fun y hy => h y (by simp [hy]))
    have h2 := h x (by simp)
    simp only [tot13, List.length_cons]
    omega
theorem marks13_get : ∀ (ps : List (List Stm)) (k : Int) (j : Nat) (h : j < ps.length), (marks13 k ps)[j]? = some (markSt (k + 3 * tot13 (ps.take j)) ps[j].length)
  | [], k, j, h => by simp at h
  | p :: ps, k, 0, h => by simp [marks13, tot13]
  | p :: ps, k, j + 1, h => by
    simp only [marks13, List.getElem?_cons_succ]
    rw [marks13_get ps (k + 3 * p.length) j (by simpa using h)]
    simp only [List.take_succ_cons, tot13, List.getElem_cons_succ]
    congr 2
    push_cast
    omega
/-- The first j bear their marks. -/
def mpart13 (k : Int) (ps : List (List Stm)) (j : Nat) : List (List Stm) := (marks13 k ps).take j ++ ps.drop j
theorem mpart13_zero (k : Int) (ps : List (List Stm)) : mpart13 k ps 0 = ps := by simp [mpart13]
theorem mpart13_all (k : Int) (ps : List (List Stm)) : mpart13 k ps ps.length = marks13 k ps := by
  unfold mpart13
  rw [List.take_of_length_le (by rw [marks13_length]; exact Nat.le_refl _)]
  simp
theorem mpart13_length (k : Int) (ps : List (List Stm)) (j : Nat) (h : j ≤ ps.length) : (mpart13 k ps j).length = ps.length := by simp [mpart13, marks13_length]; omega
theorem mpart13_get (k : Int) (ps : List (List Stm)) (j : Nat) (h : j < ps.length) : (mpart13 k ps j)[j]? = some ps[j] := by
  unfold mpart13
  have hl : ((marks13 k ps).take j).length = j := by simp [marks13_length]; omega
  rw [List.getElem?_append_right (by omega), hl, Nat.sub_self, List.getElem?_drop]
  simp [h]
theorem mpart13_succ (k : Int) (ps : List (List Stm)) (j : Nat) (h : j < ps.length) : mpart13 k ps (j + 1) = (mpart13 k ps j).set j (markSt (k + 3 * tot13 (ps.take j)) ps[j].length) := by
  unfold mpart13
  have hl : ((marks13 k ps).take j).length = j := by simp [marks13_length]; omega
  obtain ⟨hlt, hge⟩ := List.getElem?_eq_some_iff.1 (marks13_get ps k j h)
  rw [List.set_append_right _ _ (by omega), hl, Nat.sub_self, List.drop_eq_getElem_cons h, List.set_cons_zero, List.take_succ_eq_append_getElem hlt, hge, List.append_assoc]
  rfl

/-- A row is another, in the same place, whatever its value. -/
theorem Own13.updV {W w' : World} {base i : Nat} {v x : Value} {us : List Value} {ps : List (List Stm)} {L : List Stm} (h : Own13 W base v us ps) (hi : i < ps.length) (hui : us[i]? = some x) (hg : W.grownBy w' x.ownBlock)
    (ho : w'.ownsRow base 36 3 x L.length (cells3 L)) : Own13 w' base v us (ps.set i L) := by
  obtain ⟨p, hp⟩ : ∃ p, ps[i]? = some p := ⟨ps[i], by simp [hi]⟩
  have hoi := h.each i _ p hui hp
  refine ⟨by rw [List.length_set]; exact own_grown h.row hg (fun k hk e => kind13 hoi h.row (by decide) k e hk), fun j u r h1 h2 => ?_, h.ap⟩
  by_cases e : i = j
  · subst e
    rw [hui] at h1
    rw [List.getElem?_set_self hi] at h2
    cases h1; cases h2
    exact ho
  · rw [List.getElem?_set_ne e] at h2
    have h3 := h.each j u r h1 h2
    exact own_grown h3 hg (fun k hk e' => h.ap j i u _ k (fun e2 => e e2.symm) h1 hui hk e')

/-- Blocks that hold no statements stay. -/
def OtherT (w w' : World) : Prop := ∀ (b : Nat) (C : Array Value) (t : TypeId) (q : Nat × Nat), w.heap[b]? = some (.cells C t q) → t ≠ 36 → w'.heap[b]? = some (.cells C t q)
theorem OtherT.refl (w : World) : OtherT w w := fun _ _ _ _ h _ => h
theorem OtherT.trans {a b c : World} (h : OtherT a b) (k : OtherT b c) : OtherT a c := fun i C t q hi ht => k i C t q (h i C t q hi ht) ht
theorem OtherT.below {a b : World} (h : Below a.heap.size a b) : OtherT a b := fun i C t q hi _ => (h.block i (Array.getElem?_eq_some_iff.1 hi).1).trans hi
theorem OtherT.own {w w' : World} {base n : Nat} {u : Value} {xs : List Value} (h : w.ownsRow base 36 3 u n xs) (hg : w.grownBy w' u.ownBlock) : OtherT w w' := fun i C t q hi ht => by
  refine (hg.block i (Array.getElem?_eq_some_iff.1 hi).1 (fun e => ?_)).trans hi
  rcases h.2 with ⟨rfl, _⟩ | ⟨g, cap, cur, rfl, _, h4, _⟩
  · cases e
  · obtain rfl : i = g := Option.some.inj e
    rw [hi] at h4
    injection h4 with h4
    injection h4 with _ h4
    exact ht h4

theorem markProcSX (ps : List (List Stm)) (v : Value) (base : Nat) (us : List Value) (w : World) (hl : ps.length ≤ 1048576) (hp : ∀ p ∈ ps, p.length ≤ 1048576) (hv : Own13 w base v us ps) (hbase : base ≤ w.heap.size) :
    Calls Tryd.prog 15 #[v, .int .i64 1] w fun e w' => e = .returned (.int .i64 (1 + 3 * tot13 ps)) ∧ Own13 w' base v us (marks13 1 ps) ∧ Below base w w' ∧ OtherT w w' := by
  have htl := tot13_le ps hp
  rcases hv.row.2 with ⟨rfl, h0⟩ | ⟨g, cap, cur, rfl, hb, _⟩
  · have hL : ps = [] := List.eq_nil_of_length_eq_zero h0
    subst hL
    go_enter Tryd.func15, Tryd.ntmps15
    go_wp2
    refine wp_loop_rounds 1 ?_
    rw [rounds_succ]
    go_wp2
    go_ret
    exact ⟨ret_int (by simp [tot13]), hv, Below.refl _ _, OtherT.refl _⟩
  · obtain ⟨n, hN⟩ : ∃ n, ps.length = n := ⟨_, rfl⟩
    have HN : Hid (ps.length = n) := hN
    have HTL : Hid _ := htl
    rw [hN] at hl hv HTL ⊢
    clear hN htl
    have hul : us.length = n := by have := hv.len; rw [HN.out] at this; exact this
    have hv0 : Own13 w base (.slice (some ⟨g, 0, none⟩) n cap) us (mpart13 1 ps 0) := by rw [mpart13_zero]; exact hv
    go_enter Tryd.func15, Tryd.ntmps15
    go_wp2
    go_loopw [1, 5] (fun q i wr => ∃ j : Nat, j ≤ n ∧ i = .int .i64 j ∧ q = .int .i64 (1 + 3 * tot13 (ps.take j)) ∧ Own13 wr base (.slice (some ⟨g, 0, none⟩) n cap) us (mpart13 1 ps j) ∧ Below base w wr ∧ OtherT w wr) (fun _ i _ => n - (intOf i).toNat)
    case atStart => exact ⟨0, Nat.zero_le _, rfl, by simp [tot13], hv0, Below.refl _ _, OtherT.refl _⟩
    case round =>
      obtain ⟨j, hj, rfl, rfl, own, bl, ot⟩ := hrel
      have htj : tot13 (ps.take j) ≤ 1048576 * n := by
        have h3 := tot13_le (ps.take j) (fun y hy => hp y (List.mem_of_mem_take hy))
        have h4 : (ps.take j).length ≤ n := by rw [← HN.out]; exact List.length_take_le' _ _
        exact Nat.le_trans h3 (Nat.mul_le_mul_left _ h4)
      by_cases hlt : j < n
      · have hlt' : (j : Int) < (n : Int) := by omega
        have hjp : j < ps.length := by rw [HN.out]; exact hlt
        have hju : us[j]? = some (us[j]'(by omega)) := by simp
        have hrowj := own.each j _ ps[j] hju (mpart13_get 1 ps j hjp)
        have hplj := hp ps[j] (List.getElem_mem hjp)
        have hcell : wr.cell? ⟨g, j, none⟩ = some (us[j]'(by omega)) := by
          have hr := own.row
          rw [mpart13_length _ _ _ (by omega), HN.out] at hr
          rw [hr.cellAt j (by omega)]
          exact hju
        have hmk := markStmtSX ps[j] (us[j]'(by omega)) base (1 + 3 * tot13 (ps.take j)) wr hplj (by omega) (by omega) hrowj
        have htk := tot13_take ps j hjp
        have hmj : j < (mpart13 1 ps j).length := by rw [mpart13_length _ _ _ (by omega)]; exact hjp
        have hsuc := mpart13_succ 1 ps j hjp
        have HOWN : Hid _ := own
        have HJU : Hid _ := hju
        have HSUC : Hid _ := hsuc
        have HTK : Hid _ := htk
        have HBK : Hid (∀ k, (us[j]'(by omega)).ownBlock = some k → base ≤ k) := fun k hk => (hrowj.lt k hk).1
        have hbz := Nat.le_trans hbase bl.size
        have HOT : Hid (∀ w2, wr.grownBy w2 (us[j]'(by omega)).ownBlock → OtherT w w2) := fun w2 hg => ot.trans (OtherT.own hrowj hg)
        obtain ⟨ua, um, uc, hus⟩ := own_slice hrowj
        clear own hju hsuc htk hrowj
        generalize us[j]'(by omega) = x at *
        subst hus
        go_wp2_with fail
        go_at_call 28
        refine hmk.mono ?_
        rintro e w2 ⟨rfl, o2, g2⟩
        have HO2 : Hid (Own13 w2 base (.slice (some ⟨g, 0, none⟩) n cap) us (mpart13 1 ps (j + 1))) := by
          show Own13 _ _ _ _ _
          rw [HSUC.out]
          exact HOWN.out.updV hmj HJU.out g2 (by rw [markSt_length]; exact o2)
        have HB2 : Hid (Below base w w2) := bl.grown g2 hbz (fun k hk => HBK.out k hk)
        have HT2 : Hid (OtherT w w2) := HOT.out w2 g2
        clear hmk o2 g2
        go_wp2
        go_roundw
        case rel => exact ⟨j + 1, by omega, by go_num, by rw [HTK.out]; go_num, HO2.out, HB2.out, HT2.out⟩
        case measure => simp [intOf]; omega
      · have hjj : n = j := by omega
        subst hjj
        have e9 : mpart13 1 ps n = marks13 1 ps := by
          have := mpart13_all 1 ps
          rw [HN.out] at this
          exact this
        rw [e9] at own
        have e10 : ps.take n = ps := List.take_of_length_le (by rw [HN.out]; exact Nat.le_refl _)
        have HO : Hid _ := own
        have HE : Hid _ := e10
        clear own e9 e10
        go_wp2
        go_ret
        exact ⟨by rw [HE.out]; rfl, HO.out, bl, ot⟩

theorem markProgramX (ps : List (List Stm)) (v : Value) (base : Nat) (us : List Value) (w : World) (hl : ps.length ≤ 1048576) (hp : ∀ p ∈ ps, p.length ≤ 1048576) (hv : Own13 w base v us ps) (hbase : base ≤ w.heap.size) :
    Calls Tryd.prog 7 #[.agg #[v], .int .i64 1] w fun e w' => e = .returned (.int .i64 (1 + 3 * tot13 ps)) ∧ Own13 w' base v us (marks13 1 ps) ∧ Below base w w' ∧ OtherT w w' := by
  have hb0 : Below w.heap.size w (w.alloc (.cells #[v] 24)) := by go_grown
  have hm := markProcSX ps v base us _ hl hp (hv.kept hb0) (Nat.le_trans hbase hb0.size)
  obtain ⟨ua, um, uc, rfl⟩ := own_slice hv.row
  go_enter Tryd.func7, Tryd.ntmps7
  go_wp2_with fail
  go_at_call 15
  refine hm.mono ?_
  rintro e w1 ⟨rfl, o1, b1, t1⟩
  have HO : Hid _ := o1
  clear o1 hm
  go_wp2
  go_ret
  exact ⟨rfl, HO.out, (hb0.mono hbase).trans b1, (OtherT.below hb0).trans t1⟩

theorem heldProcSX (ps : List (List Stm)) (v : Value) (base : Nat) (us : List Value) (w : World) (hl : ps.length ≤ 1048576) (hp : ∀ p ∈ ps, p.length ≤ 1048576) (hv : Own13 w base v us (marks13 1 ps)) :
    Calls Tryd.prog 16 #[v, .int .i64 1] w fun e w' => e = .returned (.int .i64 (1 + 3 * tot13 ps)) ∧ Below w.heap.size w w' := by
  have htl := tot13_le ps hp
  have hml := marks13_length ps 1
  rcases hv.row.2 with ⟨rfl, h0⟩ | ⟨g, cap, cur, rfl, hb, _⟩
  · have hL : ps = [] := List.eq_nil_of_length_eq_zero (by omega)
    subst hL
    go_enter Tryd.func16, Tryd.ntmps16
    go_wp2
    refine wp_loop_rounds 1 ?_
    rw [rounds_succ]
    go_wp2
    go_ret
    exact ⟨ret_int (by simp [tot13]), Below.refl _ _⟩
  · rw [hml] at hv ⊢
    obtain ⟨n, hN⟩ : ∃ n, ps.length = n := ⟨_, rfl⟩
    have HN : Hid (ps.length = n) := hN
    have hul : us.length = n := by have := hv.len; omega
    have HTL : Hid _ := htl
    have HV : Hid _ := hv
    rw [hN] at hl HTL HV ⊢
    have hrow := hv.row
    rw [hml, hN] at hrow
    clear hN htl hv hml
    go_enter Tryd.func16, Tryd.ntmps16
    go_wp2
    go_loopw [1, 5] (fun q i wr => ∃ j : Nat, j ≤ n ∧ i = .int .i64 j ∧ q = .int .i64 (1 + 3 * tot13 (ps.take j)) ∧ Below w.heap.size w wr) (fun _ i _ => n - (intOf i).toNat)
    case atStart => exact ⟨0, Nat.zero_le _, rfl, by simp [tot13], Below.refl _ _⟩
    case round =>
      obtain ⟨j, hj, rfl, rfl, bl⟩ := hrel
      have htj : tot13 (ps.take j) ≤ 1048576 * n := by
        have h3 := tot13_le (ps.take j) (fun y hy => hp y (List.mem_of_mem_take hy))
        have h4 : (ps.take j).length ≤ n := by rw [← HN.out]; exact List.length_take_le' _ _
        exact Nat.le_trans h3 (Nat.mul_le_mul_left _ h4)
      by_cases hlt : j < n
      · have hlt' : (j : Int) < (n : Int) := by omega
        have hjp : j < ps.length := by rw [HN.out]; exact hlt
        have hju : us[j]? = some (us[j]'(by omega)) := by simp
        have hrowj := HV.out.each j _ _ hju (marks13_get ps 1 j hjp)
        rw [markSt_length] at hrowj
        have hplj := hp ps[j] (List.getElem_mem hjp)
        have hcell : wr.cell? ⟨g, j, none⟩ = some (us[j]'(by omega)) := by
          have h5 : w.cell? ⟨g, j, none⟩ = some (us[j]'(by omega)) := by rw [hrow.cellAt j (by omega)]; exact hju
          exact (bl.cell (World.block_lt_of_cell? w _ h5)).trans h5
        have hmk := heldStmtSX ps[j].length (us[j]'(by omega)) base (1 + 3 * tot13 (ps.take j)) wr hplj (by omega) (by omega) (own_kept hrowj bl)
        have htk := tot13_take ps j hjp
        have HTK : Hid _ := htk
        obtain ⟨ua, um, uc, hus⟩ := own_slice hrowj
        clear hju htk hrowj
        generalize us[j]'(by omega) = x at *
        subst hus
        have hk0 : (decide ((1 : Int) + 3 * (tot13 (ps.take j) : Int) + 3 * (ps[j].length : Int) < 0)) = false := by simp; omega
        generalize ps[j].length = pl at *
        go_wp2_with fail
        go_at_call 29
        refine hmk.mono ?_
        rintro e w2 ⟨rfl, b2⟩
        clear hmk
        go_wp2
        go_roundw
        case rel => exact ⟨j + 1, by omega, by go_num, by rw [HTK.out]; go_num, bl.trans (b2.mono bl.size)⟩
        case measure => simp [intOf]; omega
      · have hjj : n = j := by omega
        subst hjj
        have e10 : ps.take n = ps := List.take_of_length_le (by rw [HN.out]; exact Nat.le_refl _)
        have HE : Hid _ := e10
        clear e10
        go_wp2
        go_ret
        exact ⟨by rw [HE.out]; rfl, bl⟩

theorem heldProgramX (ps : List (List Stm)) (v : Value) (base : Nat) (us : List Value) (w : World) (hl : ps.length ≤ 1048576) (hp : ∀ p ∈ ps, p.length ≤ 1048576) (hv : Own13 w base v us (marks13 1 ps)) :
    Calls Tryd.prog 8 #[.agg #[v], .int .i64 1] w fun e w' => e = .returned (.int .i64 (1 + 3 * tot13 ps)) ∧ Below w.heap.size w w' := by
  have hb0 : Below w.heap.size w (w.alloc (.cells #[v] 24)) := by go_grown
  have hm := heldProcSX ps v base us _ hl hp (hv.kept hb0)
  have htl := tot13_le ps hp
  obtain ⟨ua, um, uc, rfl⟩ := own_slice hv.row
  have hk0 : (decide ((1 : Int) + 3 * (tot13 ps : Int) < 0)) = false := by simp; omega
  go_enter Tryd.func8, Tryd.ntmps8
  go_wp2_with fail
  go_at_call 16
  refine hm.mono ?_
  rintro e w1 ⟨rfl, b1⟩
  clear hm
  go_wp2
  go_ret
  exact ⟨rfl, hb0.trans (b1.mono hb0.size)⟩

theorem six_cells {w : World} {b : Nat} {x0 x1 x2 x3 x4 x5 : Value} {T : TypeId} (h : w.heap[b]? = some (.cells #[x0, x1, x2, x3, x4, x5] T (0, 0))) :
    (w.cell? ⟨b, 0, none⟩ = some x0 ∧ w.cell? ⟨b, 1, none⟩ = some x1 ∧ w.cell? ⟨b, 2, none⟩ = some x2 ∧ w.cell? ⟨b, 3, none⟩ = some x3 ∧ w.cell? ⟨b, 4, none⟩ = some x4 ∧ w.cell? ⟨b, 5, none⟩ = some x5) ∧ ∀ o, w.frozen? ⟨b, o, none⟩ = false := by
  refine ⟨⟨?_, ?_, ?_, ?_, ?_, ?_⟩, fun o => frozen_of_row w b o _ T h⟩ <;> simp [World.cell?, h]

end Go.Proofs.YtbbcbfhijmhnkaaDoor
