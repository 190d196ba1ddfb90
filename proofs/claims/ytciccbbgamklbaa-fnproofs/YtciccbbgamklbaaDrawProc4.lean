/-
  spec.l4DrawProc: some Proc in rows of its own.
-/
import Derived.Test.YtciccbbgamklbaaDrawProc
import Derived.Test.YtciccbbgamklbaaIntLaws
import Derived.Deep.RegionHeld3
import Derived.Deep.DrawnRows
namespace Go.Proofs.Ytciccbbgamklbaa
open Go.RowKit
set_option linter.unusedVariables false
set_option maxHeartbeats 2000000
attribute [local go_sem ↓] Go.wp_at_zero Go.wp_at_succ

theorem cells3_set : ∀ (ss : List Stm) (k : Nat) (s : Stm), k < ss.length → (((cells3 ss).set (k * 3) (.int .i64 s.k)).set (k * 3 + 1) (.int .i64 s.x)).set (k * 3 + 2) (.int .i64 s.y) = cells3 (ss.set k s)
  | [], k, s, h => by simp at h
  | t :: ss, 0, s, _ => by simp [cells3]
  | t :: ss, k + 1, s, h => by
    have ih := cells3_set ss k s (by simpa using h)
    have e : (k + 1) * 3 = k * 3 + 1 + 1 + 1 := by omega
    simp only [e, cells3, List.set_cons_succ]
    rw [← ih]

theorem cells3_setK (t : Stm) (ss : List Stm) (q : Int) : (cells3 (t :: ss)).set 0 (.int .i64 q) = cells3 (⟨q, t.x, t.y⟩ :: ss) := by simp [cells3]

theorem one_set' {w : World} {b : Nat} {x : Value} {T : TypeId} (h : w.heap[b]? = some (.cells #[x] T (0, 0))) (y : Value) : (w.setCell ⟨b, 0, none⟩ y).heap[b]? = some (.cells #[y] T (0, 0)) := by
  have h1 := heap_setCell_same w b 0 _ T y h
  simpa using h1

/-- What l4DrawProc has between its steps. -/
structure DSt (g R S : Nat) (bs : List Int) (u : Value) (w : World) (ss : List Stm) (wr : World) : Prop where
  n1 : 1 ≤ ss.length
  n7 : ss.length ≤ 7
  own : wr.ownsRow (R + 1) 54 3 u ss.length (cells3 ss)
  cur : Cur wr g bs
  grown : w.grownBy wr (some g)
  res : wr.heap[R]? = some (.cells #[.slice none 0 0] 30 (0, 0))
  box : wr.heap[S]? = some (.cells #[u] 30 (0, 0))
  ne : ∀ k, u.ownBlock = some k → k ≠ S

theorem DSt.cells {g R S : Nat} {bs : List Int} {u : Value} {w : World} {ss : List Stm} {wr : World} (h : DSt g R S bs u w ss wr) : ∃ gu cap, u = .slice (some ⟨gu, 0, none⟩) ss.length cap ∧ R < gu ∧ gu ≠ S ∧ gu < wr.heap.size ∧ ∀ j, j < ss.length * 3 → (∃ x, wr.cell? ⟨gu, j, none⟩ = some x) ∧ wr.frozen? ⟨gu, j, none⟩ = false := by
  rcases h.own.2 with ⟨_, h0⟩ | ⟨gu, cap, cur, rfl, hb, hg, _⟩
  · have := h.n1; omega
  · exact ⟨gu, cap, rfl, by omega, h.ne gu rfl, (h.own.lt gu rfl).2, fun j hj => ⟨own_cell h.own j hj, h.own.frozenAt j⟩⟩

theorem DSt.cellAt {g R S : Nat} {bs : List Int} {gu cap n : Nat} {w : World} {ss : List Stm} {wr : World} (h : DSt g R S bs (.slice (some ⟨gu, 0, none⟩) n cap) w ss wr) (hn : ss.length = n) (j : Nat) (hj : j < n * 3) : (∃ x, wr.cell? ⟨gu, j, none⟩ = some x) ∧ wr.frozen? ⟨gu, j, none⟩ = false := by
  subst hn
  exact ⟨own_cell h.own j hj, h.own.frozenAt j⟩

/-- A statement is laid into the row. -/
theorem DSt.put {g R S : Nat} {bs : List Int} {gu cap : Nat} {w : World} {ss : List Stm} {wr : World} (h : DSt g R S bs (.slice (some ⟨gu, 0, none⟩) ss.length cap) w ss wr) (hgR : g < R) (hR : R = w.heap.size) (k : Nat) (hk : k < ss.length) (s : Stm) :
    DSt g R S bs (.slice (some ⟨gu, 0, none⟩) ss.length cap) w (ss.set k s) (((wr.setCell ⟨gu, k * 3, none⟩ (.int .i64 s.k)).setCell ⟨gu, k * 3 + 1, none⟩ (.int .i64 s.x)).setCell ⟨gu, k * 3 + 2, none⟩ (.int .i64 s.y)) := by
  have hgu := (h.own.lt gu rfl).1
  have hne := h.ne gu rfl
  have o3 := (((h.own.stored (k * 3) (.int .i64 s.k)).1.stored (k * 3 + 1) (.int .i64 s.x)).1.stored (k * 3 + 2) (.int .i64 s.y)).1
  rw [cells3_set ss k s hk] at o3
  refine ⟨by simpa using h.n1, by simpa using h.n7, by simpa using o3, curSet (curSet (curSet h.cur (by omega) _) (by omega) _) (by omega) _, grownSet (grownSet (grownSet h.grown (by omega) _) (by omega) _) (by omega) _, ?_, ?_, fun k' hk' => h.ne k' hk'⟩
  · rw [Below.heap_setCell _ _ _ _ (by simp; omega), Below.heap_setCell _ _ _ _ (by simp; omega), Below.heap_setCell _ _ _ _ (by simp; omega)]; exact h.res
  · rw [Below.heap_setCell _ _ _ _ (by simp; omega), Below.heap_setCell _ _ _ _ (by simp; omega), Below.heap_setCell _ _ _ _ (by simp; omega)]; exact h.box

theorem DSt.putK {g R S : Nat} {bs : List Int} {gu cap : Nat} {w : World} {ss : List Stm} {wr : World} (h : DSt g R S bs (.slice (some ⟨gu, 0, none⟩) ss.length cap) w ss wr) (hgR : g < R) (hR : R = w.heap.size) (q : Int) :
    ∃ ss' : List Stm, ss'.length = ss.length ∧ DSt g R S bs (.slice (some ⟨gu, 0, none⟩) ss.length cap) w ss' (wr.setCell ⟨gu, 0, none⟩ (.int .i64 q)) := by
  have hgu := (h.own.lt gu rfl).1
  have hne := h.ne gu rfl
  have hn1 := h.n1
  have hn7 := h.n7
  cases ss with
  | nil => simp at hn1
  | cons t ss =>
    have o3 := (h.own.stored 0 (.int .i64 q)).1
    rw [cells3_setK] at o3
    refine ⟨⟨q, t.x, t.y⟩ :: ss, by simp, by simp, by simpa using hn7, by simpa using o3, curSet h.cur (by omega) _, grownSet h.grown (by omega) _, ?_, ?_, fun k' hk' => h.ne k' hk'⟩
    · rw [Below.heap_setCell _ _ _ _ (by simp; omega)]; exact h.res
    · rw [Below.heap_setCell _ _ _ _ (by simp; omega)]; exact h.box

theorem DSt.putN {g R S : Nat} {bs : List Int} {gu cap n : Nat} {w : World} {ss : List Stm} {wr : World} (h : DSt g R S bs (.slice (some ⟨gu, 0, none⟩) n cap) w ss wr) (hn : ss.length = n) (hgR : g < R) (hR : R = w.heap.size) (k : Nat) (hk : k < n) (s : Stm) :
    ∃ ss' : List Stm, ss'.length = n ∧ DSt g R S bs (.slice (some ⟨gu, 0, none⟩) n cap) w ss' (((wr.setCell ⟨gu, k * 3, none⟩ (.int .i64 s.k)).setCell ⟨gu, k * 3 + 1, none⟩ (.int .i64 s.x)).setCell ⟨gu, k * 3 + 2, none⟩ (.int .i64 s.y)) := by
  subst hn
  exact ⟨ss.set k s, by simp, h.put hgR hR k hk s⟩

theorem DSt.putKN {g R S : Nat} {bs : List Int} {gu cap n : Nat} {w : World} {ss : List Stm} {wr : World} (h : DSt g R S bs (.slice (some ⟨gu, 0, none⟩) n cap) w ss wr) (hn : ss.length = n) (hgR : g < R) (hR : R = w.heap.size) (q : Int) :
    ∃ ss' : List Stm, ss'.length = n ∧ DSt g R S bs (.slice (some ⟨gu, 0, none⟩) n cap) w ss' (wr.setCell ⟨gu, 0, none⟩ (.int .i64 q)) := by
  subst hn
  exact h.putK hgR hR q

/-- The cursor's block alone has turned. -/
theorem DSt.step {g R S : Nat} {bs : List Int} {u : Value} {w : World} {ss : List Stm} {wr wr' : World} (h : DSt g R S bs u w ss wr) (hgR : g < R) (hgS : g < S) (hg : wr.grownBy wr' (some g)) (hc : Cur wr' g bs) : DSt g R S bs u w ss wr' where
  n1 := h.n1
  n7 := h.n7
  own := own_grown h.own hg (fun k hk e => by have := (h.own.lt k hk).1; simp at e; omega)
  cur := hc
  grown := grown_trans h.grown hg
  res := blockGrown h.res hg hgR
  box := blockGrown h.box hg hgS
  ne := h.ne

theorem l4DrawProc (g : Nat) (bs : List Int) (w : World) (hl : bs.length ≤ 1048576) (hc : Cur w g bs) :
    Calls Try.prog 58 #[.pointer (some ⟨g, 0, none⟩)] w fun e w' =>
      ∃ (u : Value) (ss : List Stm), e = .returned (.agg #[u]) ∧ 1 ≤ ss.length ∧ ss.length ≤ 7 ∧ w'.ownsRow w.heap.size 54 3 u ss.length (cells3 ss) ∧ Cur w' g bs ∧ w.grownBy w' (some g) := by
  have hgw := curLt hc
  have hcA := curAlloc hc (.cells #[.slice none 0 0] 30)
  have HA := heap_alloc_new w (.cells #[.slice none 0 0] 30)
  have gA := World.grownBy_alloc w (.cells #[.slice none 0 0] 30) (some g)
  have sA : (w.alloc (.cells #[.slice none 0 0] 30)).heap.size = w.heap.size + 1 := by simp
  go_enter Try.func58, Try.ntmps58
  go_wp2_with fail
  go_at_call 76
  refine (l3DrawProc g bs 3 (by omega) _ hl hcA).mono ?_
  rintro e w1 ⟨u, ss, rfl, h1, h7, own1, hc1, hg1⟩
  rw [sA] at own1
  have s1 := hg1.size
  rw [sA] at s1
  have D1 : DSt g w.heap.size w1.heap.size bs u w ss (w1.alloc (.cells #[u] 30)) := by
    refine ⟨h1, h7, own1.alloc _, curAlloc hc1 _, grownAlloc (grown_trans gA hg1) _, ?_, heap_alloc_new w1 _, fun k hk => ?_⟩
    · rw [old_block (by omega)]; exact blockGrown HA hg1 hgw
    · have := (own1.lt k hk).2; omega
  have gS : g < w1.heap.size := by omega
  have RS : w.heap.size < w1.heap.size := by omega
  obtain ⟨gu, uc, rfl, hRu, huS, -⟩ := D1.cells
  have hss1 : (1 : Int) ≤ (ss.length : Int) := by omega
  have hss7 : (ss.length : Int) ≤ 7 := by omega
  clear own1 hc1 hg1 HA gA hcA s1 sA
  go_wp2_with fail
  go_at_call 60
  refine (l1Once g bs 3 (by omega) _ hl D1.cur).mono ?_
  rintro e w2 ⟨b, rfl, hc2, hg2⟩
  have D2 := D1.step hgw gS hg2 hc2
  clear hc2 hg2 D1
  obtain ⟨n, hn⟩ : ∃ n, ss.length = n := ⟨_, rfl⟩
  rw [hn] at D2 hss1 hss7 h1 h7
  have key : ∃ ss2 : List Stm, ss2.length = n ∧ DSt g w.heap.size w1.heap.size bs (.slice (some ⟨gu, 0, none⟩) n uc) w ss2 w2 := ⟨ss, hn, D2⟩
  rw [hn]
  clear D2 hn
  clear ss
  obtain ⟨ss, hn, D2⟩ := key
  cases b
  case' true =>
    obtain ⟨c2, f2⟩ := oneCell D2.box
    go_wp2_with fail
    go_at_call 39
    refine (l1Below g bs n (by omega) _ hl D2.cur).mono ?_
    rintro e w3 ⟨k, rfl, hk0, hk1, _, hc3, hg3⟩
    have hk1 := hk1 (by omega)
    have D3 := D2.step hgw gS hg3 hc3
    clear hc3 hg3 D2 c2 f2
    obtain ⟨kn, rfl⟩ : ∃ kn : Nat, k = (kn : Int) := ⟨k.toNat, by omega⟩
    obtain ⟨c3, f3⟩ := oneCell D3.box
    by_cases hkl : (kn : Int) + 1 < (n : Int)
    case' neg =>
      go_wp2_with fail
      clear c3 f3
    case' pos =>
      have hgu3 : gu < w3.heap.size := (D3.own.lt gu rfl).2
      have hkn : kn < ss.length := by omega
      have hbl : ∀ W, Cur W g bs → _ := fun W hW => l1Below g bs n (by omega) W hl hW
      have HD3 : Hid _ := D3
      have hk0' : (0 : Int) ≤ (kn : Int) := by omega
      go_wp2_with fail
      go_region_held3 (fun w' => w'.cell? ⟨w1.heap.size, 0, none⟩ = some (.slice (some ⟨gu, 0, none⟩) n uc)) (first | exact c3 | exact c4 | exact c5.out) (first
        | (go_at_call 39; refine (hbl _ (cur_below D3.cur (by go_grown))).mono ?_; rintro e w4 ⟨y, rfl, hy0, hy1, _, hc4, hg4⟩; have D4 := HD3.out.step hgw gS (grown_trans (grown_of_below (by go_grown) _) hg4) hc4; (have c4 := (oneCell D4.box).1); obtain ⟨⟨x0, d0⟩, i0⟩ := D4.cellAt hn (kn * 3) (by omega); obtain ⟨⟨x1, d1⟩, i1⟩ := D4.cellAt hn (kn * 3 + 1) (by omega); obtain ⟨⟨x2, d2⟩, i2⟩ := D4.cellAt hn (kn * 3 + 2) (by omega); have c5 : Hid ((((w4.setCell ⟨gu, kn * 3, none⟩ (.int .i64 7)).setCell ⟨gu, kn * 3 + 1, none⟩ (.int .i64 0)).setCell ⟨gu, kn * 3 + 2, none⟩ (.int .i64 y)).cell? ⟨w1.heap.size, 0, none⟩ = some (.slice (some ⟨gu, 0, none⟩) n uc)) := (oneCell (by rw [Below.heap_setCell _ _ _ _ (by simp; omega), Below.heap_setCell _ _ _ _ (by simp; omega), Below.heap_setCell _ _ _ _ (by simp; omega)]; exact D4.box)).1))
      have K5 := D4.putN hn hgw rfl kn (by omega) ⟨7, 0, y⟩
      simp only at K5
      generalize ((w4.setCell ⟨gu, kn * 3, none⟩ (.int .i64 7)).setCell ⟨gu, kn * 3 + 1, none⟩ (.int .i64 0)).setCell ⟨gu, kn * 3 + 2, none⟩ (.int .i64 y) = w5 at K5 ⊢
      clear D4 c4 c5 d0 d1 d2 i0 i1 i2 HD3 D3 hn hkn hc4 hg4 c3 f3
      clear ss
      obtain ⟨ss, hn, D3⟩ := K5
      go_wp2_with fail
  case' false =>
    have D3 := D2
    clear D2
    go_wp2_with fail
  all_goals
    try go_wp2_with fail
    go_at_call 60
    refine (l1Once g bs 16 (by omega) _ hl D3.cur).mono ?_
    rintro e w6 ⟨b6, rfl, hc6, hg6⟩
    have D6 := D3.step hgw gS hg6 hc6
    clear hc6 hg6 D3
    cases b6
    case' true =>
      obtain ⟨c6, f6⟩ := oneCell D6.box
      have hfr : ∀ W, Cur W g bs → _ := fun W hW => l1From g bs 0 11 (by omega) (by omega) (by omega) W hl hW
      have hn0 : (0 : Int) < (n : Int) := by omega
      have hn0' : 0 < n := by omega
      have HD6 : Hid _ := D6
      go_wp2_with fail
      go_region_held3 (fun w' => w'.cell? ⟨w1.heap.size, 0, none⟩ = some (.slice (some ⟨gu, 0, none⟩) n uc)) (first | exact c6 | exact c7 | exact c8.out) (first
        | (go_at_call 40; refine (hfr _ (cur_below D6.cur (by go_grown))).mono ?_; rintro e w7 ⟨y7, rfl, _, _, hc7, hg7⟩; have D7 := HD6.out.step hgw gS (grown_trans (grown_of_below (by go_grown) _) hg7) hc7; (have c7 := (oneCell D7.box).1); obtain ⟨⟨x0, d0⟩, i0⟩ := D7.cellAt hn 0 (by omega); have c8 : Hid ((w7.setCell ⟨gu, 0, none⟩ (.int .i64 y7)).cell? ⟨w1.heap.size, 0, none⟩ = some (.slice (some ⟨gu, 0, none⟩) n uc)) := (oneCell (by rw [Below.heap_setCell _ _ _ _ (by simp; omega)]; exact D7.box)).1))
      have K8 := D7.putKN hn hgw rfl y7
      generalize w7.setCell ⟨gu, 0, none⟩ (.int .i64 y7) = w8 at K8 ⊢
      clear D7 c7 c8 d0 i0 HD6 D6 hn hc7 hg7 c6 f6
      clear ss
      obtain ⟨ss, hn, D6⟩ := K8
    all_goals
      obtain ⟨c6, f6⟩ := oneCell D6.box
      obtain ⟨r6, fr6⟩ := oneCell D6.res
      have hRlt := (Array.getElem?_eq_some_iff.1 D6.res).1
      have G9 := one_set' D6.res (.slice (some ⟨gu, 0, none⟩) n uc)
      obtain ⟨d9, _⟩ := oneCell G9
      go_wp2
      refine bodyPost_ret (v := .agg #[.slice (some ⟨gu, 0, none⟩) n uc]) (by simp [results, Try.results58, go_sem, d9]) rfl ?_
      refine ⟨_, ss, rfl, D6.n1, D6.n7, ?_, curSet D6.cur hgw _, grownSet D6.grown (Nat.le_refl _) _⟩
      exact own_mono (ownsRow_setCell_other D6.own (a := ⟨w.heap.size, 0, none⟩) (fun e => by have h : w.heap.size + 1 ≤ w.heap.size := (D6.own.lt _ e).1; omega) _) (by omega)

end Go.Proofs.Ytciccbbgamklbaa
