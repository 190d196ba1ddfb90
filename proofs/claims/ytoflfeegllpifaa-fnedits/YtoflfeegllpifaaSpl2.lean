/-
  impl.spliced: one in place of one, one more, one that goes; slices.Clone of statements and of procedures; impl.clonedProcs.
-/
import Derived.Test.YtoflfeegllpifaaSpl
import Derived.ArgAppend
namespace Go.Proofs.Ytoflfeegllpifaa
open Go.RowKit
set_option linter.unusedVariables false
set_option linter.unusedSimpArgs false
set_option maxHeartbeats 4000000
set_option maxRecDepth 20000

theorem replAdd (A B : List Stm) (s0 : Stm) (k x y : Int) (g cap b base n a : Nat) (w : World) (ha : A.length = a) (hn : a + 1 + B.length = n) (hl : n ≤ 100) (hne : b ≠ g)
    (hv : w.ownsRow base 37 3 (.slice (some ⟨g, 0, none⟩) n cap) n (cells3 (A ++ s0 :: B))) (hb : w.heap[b]? = some (.cells #[.int .i64 k, .int .i64 x, .int .i64 y] 37 (0, 0))) (hbase : base ≤ w.heap.size) :
    Calls Try.prog 61 #[.slice (some ⟨g, 0, none⟩) n cap, .int .i64 (a : Int), .int .i64 (a : Int), .slice (some ⟨b, 0, none⟩) 1 1] w (RepAt g base (n + 1) (A ++ ⟨k, x, y⟩ :: s0 :: B) w) := by
  have hin := insertAt A B s0 k x y g cap b base n a w ha hn hl hne hv hb hbase
  have hnc := (own_open hv)
  obtain ⟨_, _, _, hnc, hcm, _⟩ := hnc
  unfold maxLen at hcm
  have h1 : (a : Int) ≤ (cap : Int) := by omega
  have h2 : (a : Int) ≤ (a : Int) := by omega
  have h3 : ¬ cap = a := by omega
  have h4 : (a : Int) ≤ (n : Int) := by omega
  go_enter Try.func61, Try.ntmps61
  go_wp2_with fail
  go_at_call 63
  refine hin.mono ?_
  rintro e w2 ⟨q, c, rfl, h5, h6, h7⟩
  have HH : Hid (RepAt g base (n + 1) (A ++ ⟨k, x, y⟩ :: s0 :: B) w (.returned (.slice (some ⟨q, 0, none⟩) (n + 1) c)) w2) := ⟨q, c, rfl, h5, h6, h7⟩
  clear h5 h6 h7 hin
  go_wp2
  go_ret
  exact HH.out

/-- What spliced answers. -/
def SplAt (g base : Nat) (R : List Stm) (w : World) (e : Ending) (w' : World) : Prop :=
  ∃ q c', e = .returned (.agg #[.slice (some ⟨q, 0, none⟩) R.length c']) ∧ w'.ownsRow base 37 3 (.slice (some ⟨q, 0, none⟩) R.length c') R.length (cells3 R) ∧ w.grownBy w' (some g) ∧ (q = g ∨ w.heap.size ≤ q)

theorem splicedSet (p : List Stm) (k x y : Int) (a b g cap base : Nat) (w : World) (hl : p.length ≤ 100) (ha : a < p.length) (hy : ∀ s ∈ p, 0 ≤ s.y ∧ s.y ≤ 11) (hbase : base ≤ w.heap.size) (hgb : g < w.heap.size) (hne : b ≠ g)
    (hv : w.ownsRow base 37 3 (.slice (some ⟨g, 0, none⟩) p.length cap) p.length (cells3 p)) (hb : w.heap[b]? = some (.cells #[.int .i64 k, .int .i64 x, .int .i64 y] 37 (0, 0))) :
    Calls Try.prog 56 #[.agg #[.slice (some ⟨g, 0, none⟩) p.length cap], .int .i64 (a : Int), .int .i64 1, .slice (some ⟨b, 0, none⟩) 1 1] w (SplAt g base (edSet p a ⟨k, x, y⟩) w) := by
  have hrl : (edSet p a ⟨k, x, y⟩).length = p.length := by simp [edSet]; omega
  unfold SplAt
  rw [hrl]
  refine splicedBy p (edSet p a ⟨k, x, y⟩) (some ⟨b, 0, none⟩) 1 1 a 1 g cap base p.length p.length w rfl hl (by omega) (by omega) ha hy hbase hgb hv ?_
  intro W hW hg
  have e1 : mv ((a + 1 : Nat) : Int) (((1 : Nat) : Int) - ((1 : Nat) : Int)) p = p := mv_zero _ _
  rw [e1, split_at p a ha] at hW
  have hlt : (p.take a).length = a := by simp; omega
  have := replSet (p.take a) (p.drop (a + 1)) p[a] k x y g cap b base p.length a W hlt (by simp; omega) hl hne (by rw [← split_at p a ha] at hW ⊢; exact hW) (lit_kept hb hg hne)
  refine this.mono ?_
  rintro e w' ⟨rfl, h1, h2⟩
  exact ⟨g, cap, rfl, h1, h2, .inl rfl⟩

theorem splicedAdd (p : List Stm) (k x y : Int) (a b g cap base : Nat) (w : World) (hl : p.length ≤ 100) (ha : a < p.length) (hy : ∀ s ∈ p, 0 ≤ s.y ∧ s.y ≤ 11) (hbase : base ≤ w.heap.size) (hgb : g < w.heap.size) (hne : b ≠ g)
    (hv : w.ownsRow base 37 3 (.slice (some ⟨g, 0, none⟩) p.length cap) p.length (cells3 p)) (hb : w.heap[b]? = some (.cells #[.int .i64 k, .int .i64 x, .int .i64 y] 37 (0, 0))) :
    Calls Try.prog 56 #[.agg #[.slice (some ⟨g, 0, none⟩) p.length cap], .int .i64 (a : Int), .int .i64 0, .slice (some ⟨b, 0, none⟩) 1 1] w (SplAt g base (edAdd p a ⟨k, x, y⟩) w) := by
  have hml := mv_length (a : Int) 1 p
  have hrl : (edAdd p a ⟨k, x, y⟩).length = p.length + 1 := by simp [edAdd, hml]; omega
  unfold SplAt
  rw [hrl]
  refine splicedBy p (edAdd p a ⟨k, x, y⟩) (some ⟨b, 0, none⟩) 1 1 a 0 g cap base p.length (p.length + 1) w rfl hl (by omega) (by omega) ha hy hbase hgb hv ?_
  intro W hW hg
  have e1 : mv ((a + 0 : Nat) : Int) (((1 : Nat) : Int) - ((0 : Nat) : Int)) p = mv (a : Int) 1 p := rfl
  rw [e1] at hW
  have ham : a < (mv (a : Int) 1 p).length := by omega
  have e2 := split_at (mv (a : Int) 1 p) a ham
  have hlt : ((mv (a : Int) 1 p).take a).length = a := by simp [hml]; omega
  have := replAdd ((mv (a : Int) 1 p).take a) ((mv (a : Int) 1 p).drop (a + 1)) (mv (a : Int) 1 p)[a] k x y g cap b base p.length a W hlt (by simp [hml]; omega) hl hne (by rw [← e2]; exact hW) (lit_kept hb hg hne) (Nat.le_trans hbase hg.size)
  have e3 : edAdd p a ⟨k, x, y⟩ = (mv (a : Int) 1 p).take a ++ ⟨k, x, y⟩ :: (mv (a : Int) 1 p)[a] :: (mv (a : Int) 1 p).drop (a + 1) := by
    unfold edAdd
    rw [← List.drop_eq_getElem_cons ham]
  rw [e3]
  exact this

theorem splicedDrop (p : List Stm) (a g cap base : Nat) (w : World) (hl : p.length ≤ 100) (ha : a < p.length) (hy : ∀ s ∈ p, 0 ≤ s.y ∧ s.y ≤ 11) (hbase : base ≤ w.heap.size) (hgb : g < w.heap.size)
    (hv : w.ownsRow base 37 3 (.slice (some ⟨g, 0, none⟩) p.length cap) p.length (cells3 p)) :
    Calls Try.prog 56 #[.agg #[.slice (some ⟨g, 0, none⟩) p.length cap], .int .i64 (a : Int), .int .i64 1, .slice none 0 0] w (SplAt g base (edDrop p a) w) := by
  have hml := mv_length ((a : Int) + 1) (-1) p
  have hrl : (edDrop p a).length = a + (p.length - (a + 1)) := by simp [edDrop, hml]; omega
  unfold SplAt
  rw [hrl]
  refine splicedBy p (edDrop p a) none 0 0 a 1 g cap base p.length _ w rfl hl (by omega) (by omega) ha hy hbase hgb hv ?_
  intro W hW hg
  have e1 : mv ((a + 1 : Nat) : Int) (((0 : Nat) : Int) - ((1 : Nat) : Int)) p = mv ((a : Int) + 1) (-1) p := rfl
  rw [e1] at hW
  have ham : a < (mv ((a : Int) + 1) (-1) p).length := by omega
  have e2 := split_at (mv ((a : Int) + 1) (-1) p) a ham
  have hlt : ((mv ((a : Int) + 1) (-1) p).take a).length = a := by simp [hml]; omega
  have hdl : ((mv ((a : Int) + 1) (-1) p).drop (a + 1)).length = p.length - (a + 1) := by simp [hml]
  have := replDrop ((mv ((a : Int) + 1) (-1) p).take a) ((mv ((a : Int) + 1) (-1) p).drop (a + 1)) (mv ((a : Int) + 1) (-1) p)[a] g cap base p.length a W hlt (by simp [hml]; omega) hl (by rw [← e2]; exact hW)
  rw [hdl] at this
  refine this.mono ?_
  rintro e w' ⟨rfl, h1, h2⟩
  exact ⟨g, cap, rfl, h1, h2, .inl rfl⟩

theorem cloneStmts (p : List Stm) (v : Value) (w : World) (h0 : 0 < p.length) (hl : p.length ≤ 100) (hv : Reads3 w v p) :
    Calls Try.prog 60 #[v] w fun e w' => ∃ g cap, e = .returned (.slice (some ⟨g, 0, none⟩) p.length cap) ∧ w'.ownsRow w.heap.size 37 3 (.slice (some ⟨g, 0, none⟩) p.length cap) p.length (cells3 p) ∧ Below w.heap.size w w' := by
  obtain ⟨i0, hi, hz0, hz1, hz2⟩ := info_parts infoStmt
  obtain ⟨ao, cap, rfl, hc⟩ := hv
  obtain ⟨g, off, rfl, _⟩ := hc 0 p[0] (by simp [h0])
  have hcs : Hid (∀ j u, (cells3 p)[j]? = some u → (w.alloc (.cells #[] 37)).cell? ((⟨g, off, none⟩ : Addr).add j) = some u) := by
    intro j u hu
    have hjl := (List.getElem?_eq_some_iff.1 hu).1
    rw [cells3_length] at hjl
    obtain ⟨g', off', e, q0, q1, q2⟩ := hc (j / 3) p[j / 3] (by simp)
    simp only [Option.some.injEq, Addr.mk.injEq, and_true] at e
    obtain ⟨rfl, rfl⟩ := e
    obtain ⟨a0, a1, a2⟩ := cells3_get p (j / 3) p[j / 3] (by simp)
    rw [Addr.add_lit]
    have hB := World.block_lt_of_cell? w _ q0
    have hbb : Below w.heap.size w (w.alloc (.cells #[] 37)) := Below.alloc (Below.refl _ w) (Nat.le_refl _) _
    have key : w.cell? ⟨g, off + j, none⟩ = some u := by
      rcases (by omega : j % 3 = 0 ∨ j % 3 = 1 ∨ j % 3 = 2) with h | h | h
      · have ej : j = j / 3 * 3 := by omega
        rw [← ej] at a0 q0
        rw [hu] at a0
        rw [q0, a0]
      · have ej : j = j / 3 * 3 + 1 := by omega
        rw [← ej] at a1
        rw [Nat.add_assoc, ← ej] at q1
        rw [hu] at a1
        rw [q1, a1]
      · have ej : j = j / 3 * 3 + 2 := by omega
        rw [← ej] at a2
        rw [Nat.add_assoc, ← ej] at q2
        rw [hu] at a2
        rw [q2, a2]
    exact (hbb.cell (p := ⟨g, off + j, none⟩) hB).trans key
  have heq : ∀ (W : World) (A : Addr) (n c : Nat), (binOp .eql 32 (.slice (some A) n c) (.slice none 0 0)).run Try.prog W = .ok (.bool false) W := fun _ _ _ _ => rfl
  have m0 : (w.alloc (.cells #[] 37)).ownsRow w.heap.size 37 3 (.slice (some ⟨w.heap.size, 0, none⟩) 0 0) 0 [] := World.ownsRow_made w #[] 0 (Nat.le_refl _) (by unfold maxLen; omega) rfl
  have B0 : Below w.heap.size w (w.alloc (.cells #[] 37)) := by go_grown
  clear hc
  go_enter Try.func60, Try.ntmps60
  go_wp2_with (first
    | (at_builtin; refine wpList_append_own _ rfl (.tmp 5) (.tmp 6) 32 rfl w.heap.size 37 i0 (.agg #[.int .i64 0, .int .i64 0, .int .i64 0]) 3 24 Try.underlying32 hi hz0 hz1 hz2 rfl (by decide) _ 0 [] rfl m0 ⟨g, off, none⟩ p.length _ (cells3 p) rfl (cells3_length p) hcs.out (cells3_one p) (by unfold maxLen; omega) (by omega) (by simp) ?_; intro v2 w2 own2 grow2 _)
    | go_in)
  have L2 : Below w.heap.size w w2 := B0.grown grow2 B0.size (fun q hq => Nat.le_of_eq (Option.some.inj (show some w.heap.size = some q from hq)))
  have own3 : w2.ownsRow w.heap.size 37 3 v2 p.length (cells3 p) := by simpa using own2
  rcases own3.2 with ⟨_, hn⟩ | ⟨g2, cap2, cur2, rfl, _⟩
  · omega
  go_ret
  exact ⟨g2, cap2, rfl, own3, L2⟩

theorem cloneProcs (us : List Value) (v : Value) (w : World) (h0 : 0 < us.length) (hl : us.length ≤ 100) (hv : Reads w v us) (h1 : ∀ u ∈ us, u.oneCell' = true) :
    Calls Try.prog 59 #[v] w fun e w' => ∃ g cap, e = .returned (.slice (some ⟨g, 0, none⟩) us.length cap) ∧ w'.ownsRow w.heap.size 34 1 (.slice (some ⟨g, 0, none⟩) us.length cap) us.length us ∧ Below w.heap.size w w' := by
  obtain ⟨i0, hi, hz0, hz1, hz2⟩ := info_parts infoProc
  obtain ⟨ao, cap, rfl, hc⟩ := hv
  obtain ⟨g, off, rfl, _⟩ := hc 0 us[0] (by simp [h0])
  have hcs : Hid (∀ j u, us[j]? = some u → (w.alloc (.cells #[] 34)).cell? ((⟨g, off, none⟩ : Addr).add j) = some u) := by
    intro j u hu
    obtain ⟨g', off', e, hcell⟩ := hc j u hu
    simp only [Option.some.injEq, Addr.mk.injEq, and_true] at e
    obtain ⟨rfl, rfl⟩ := e
    rw [Addr.add_lit]
    exact (Below.cell (Below.alloc (Below.refl _ w) (Nat.le_refl _) _) (World.block_lt_of_cell? w _ hcell)).trans hcell
  have heq : ∀ (W : World) (A : Addr) (n c : Nat), (binOp .eql 24 (.slice (some A) n c) (.slice none 0 0)).run Try.prog W = .ok (.bool false) W := fun _ _ _ _ => rfl
  have m0 : (w.alloc (.cells #[] 34)).ownsRow w.heap.size 34 1 (.slice (some ⟨w.heap.size, 0, none⟩) 0 0) 0 [] := World.ownsRow_made w #[] 0 (Nat.le_refl _) (by unfold maxLen; omega) rfl
  have B0 : Below w.heap.size w (w.alloc (.cells #[] 34)) := by go_grown
  clear hc
  go_enter Try.func59, Try.ntmps59
  go_wp2_with (first
    | (at_builtin; refine wpList_append_own _ rfl (.tmp 5) (.tmp 6) 24 rfl w.heap.size 34 i0 (.agg #[.slice none 0 0]) 1 24 Try.underlying24 hi hz0 hz1 hz2 rfl (by decide) _ 0 [] rfl m0 ⟨g, off, none⟩ us.length _ us rfl (by simp) hcs.out h1 (by unfold maxLen; omega) (by omega) (by simp) ?_; intro v2 w2 own2 grow2 _)
    | go_in)
  have L2 : Below w.heap.size w w2 := B0.grown grow2 B0.size (fun q hq => Nat.le_of_eq (Option.some.inj (show some w.heap.size = some q from hq)))
  have own3 : w2.ownsRow w.heap.size 34 1 v2 us.length us := by simpa using own2
  rcases own3.2 with ⟨_, hn⟩ | ⟨g2, cap2, cur2, rfl, _⟩
  · omega
  go_ret
  exact ⟨g2, cap2, rfl, own3, L2⟩

end Go.Proofs.Ytoflfeegllpifaa
