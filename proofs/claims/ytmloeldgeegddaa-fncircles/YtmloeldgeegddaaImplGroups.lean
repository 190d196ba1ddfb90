/-
  impl.groupsOf: Tarjan's search by a closure that calls itself.
-/
import Derived.Test.YtmloeldgeegddaaGroupSt
import Derived.Test.YtmloeldgeegddaaG20BeforeBoth
import Derived.Deep.AppendLies
namespace Go.Proofs.Ytmloeldgeegddaa
open Go.RowKit
set_option linter.unusedVariables false
set_option maxHeartbeats 4000000
set_option maxRecDepth 20000

theorem TSt.turn {ps : List (List Stm)} {v : Value} {w : World} {b : Nat} {st : TS} {uv gv : Value} {L : List LV} {W : World} (h : TSt ps v w b st uv gv L W) {i : Nat} (hi : i < 4) : W.cell? ⟨b + 3, i, none⟩ = some (.int .i64 (st.turns.getD i 0 : Nat)) ∧ W.frozen? ⟨b + 3, i, none⟩ = false := by
  obtain ⟨c0, c1, c2, c3, f0, f1, f2, f3⟩ := four_cellsC h.ct
  have : i = 0 ∨ i = 1 ∨ i = 2 ∨ i = 3 := by omega
  rcases this with rfl | rfl | rfl | rfl
  · exact ⟨c0, f0⟩
  · exact ⟨c1, f1⟩
  · exact ⟨c2, f2⟩
  · exact ⟨c3, f3⟩

theorem own_take {w : World} {base : Nat} {e : TypeId} {g n cap : Nat} {xs : List Value} (h : w.ownsRow base e 1 (.slice (some ⟨g, 0, none⟩) n cap) n xs) {k : Nat} (hk : k ≤ n) : w.ownsRow base e 1 (.slice (some ⟨g, 0, none⟩) k cap) k (xs.take k) := by
  have h1 := h.1
  refine ⟨by rw [List.length_take]; omega, ?_⟩
  rcases h.2 with ⟨e0, _⟩ | ⟨g', cap', cur, e0, a1, a2, a3, a4, a5, a6⟩
  · cases e0
  · cases e0
    refine .inr ⟨g, cap, cur, rfl, a1, a2, by omega, a4, a5, ?_⟩
    rw [← a6, List.take_take]
    congr 1
    omega

theorem nats_take (xs : List Nat) (k : Nat) : nats (xs.take k) = (nats xs).take k := by simp [nats, ints, List.map_take]
theorem nats_drop (xs : List Nat) (k : Nat) : nats (xs.drop k) = (nats xs).drop k := by simp [nats, ints, List.map_drop]

/-- The tail of a row. -/
theorem reads_drop {w : World} {base : Nat} {e : TypeId} {g n cap : Nat} {xs : List Value} (h : w.ownsRow base e 1 (.slice (some ⟨g, 0, none⟩) n cap) n xs) {k : Nat} (hk : k ≤ n) (c : Nat) : Reads w (.slice (some ⟨g, k, none⟩) (n - k) c) (xs.drop k) := by
  have h1 := h.1
  refine ⟨some ⟨g, k, none⟩, c, by rw [List.length_drop]; congr 1; omega, fun j x hx => ⟨g, k, rfl, ?_⟩⟩
  rw [List.getElem?_drop] at hx
  have hlt := (List.getElem?_eq_some_iff.1 hx).1
  rw [h.cellAt (k + j) (by omega), hx]

theorem min_if (a r : Nat) : (if r < a then (r : Int) else (a : Int)) = ((minN a r : Nat) : Int) := by
  rw [minN_eq]
  split <;> omega

theorem hasI_hasN (xs : List Nat) (y : Nat) : hasI (xs.map (fun x : Nat => (x : Int))) (y : Int) = hasN xs y := by
  unfold hasI hasN
  rw [List.any_map]
  congr 1
  funext x
  simp only [Function.comp]
  cases h : Nat.beq x y
  · have : x ≠ y := fun e => by subst e; rw [Nat.beq_refl] at h; cases h
    simp; omega
  · have := Nat.eq_of_beq_eq_true h
    simp; omega

theorem earliest (ps : List (List Stm)) (v : Value) (w : World) (b : Nat) (hok : programOk ps = true) (hl : ps.length ≤ maxLen) (hp : ∀ p ∈ ps, p.length ≤ maxLen) (hv : ReadsP w v ps) :
    ∀ (f p : Nat) (st : TS) (uv gv : Value) (L : List LV) (W : World), p < ps.length → TInv st → st.turns.getD p 0 = 0 → zeros st.turns ≤ f → TSt ps v w b st uv gv L W →
    Calls Try.prog 108 #[.int .i64 (p : Int), .pointer (some ⟨b + 4, 0, none⟩), .pointer (some ⟨b + 2, 0, none⟩), .pointer (some ⟨b + 3, 0, none⟩), .pointer (some ⟨b, 0, none⟩), .pointer (some ⟨b + 5, 0, none⟩), .pointer (some ⟨b + 1, 0, none⟩)] W fun e W' =>
      e = .returned (.int .i64 ((visit (NC ps) f p st).1 : Nat)) ∧ ∃ uv' gv' L', TSt ps v w b (visit (NC ps) f p st).2 uv' gv' L' W' ∧ Frm b W uv gv W' uv' gv' := by
  intro f
  induction f with
  | zero =>
    intro p st uv gv L W hpl hI h0 hz hS
    obtain ⟨h4, _, _⟩ := programOk_len hok
    have := zeros_pos (t := st.turns) (p := p) (by rw [hI.len]; omega) h0
    omega
  | succ f ih =>
    intro p st uv gv L W hpl hI h0 hz hS
    obtain ⟨i0, hi, hz0, hz1, hz2⟩ := info_parts infoInt
    obtain ⟨h4, _, _⟩ := programOk_len hok
    have hC : ∀ i, i < 4 → ∀ y ∈ NC ps i, y < 4 := fun i _ y hy => by have := NC_lt hy; omega
    have hp4 : (p : Int) < 4 := by omega
    have hcame : st.came + 1 ≤ 4 := by
      have h1 := zeros_pos (t := st.turns) (p := p) (by rw [hI.len]; omega) h0
      have h2 := hI.zer
      omega
    have hunl : st.un.length ≤ 4 := by have := hI.few; omega
    have hmid0 := beg_mid (p := p) (by omega) hI h0
    -- the first steps
    have S1 := hS.setX (st.came + 1)
    have F1 : Frm b W uv gv (W.setCell ⟨b + 4, 0, none⟩ (.int .i64 ((st.came + 1 : Nat) : Int))) uv gv := Frm.of_box (by omega) (grown_setCell1 W (b + 4) 0 _) uv gv
    obtain ⟨W1, hW1⟩ : ∃ W1, W.setCell ⟨b + 4, 0, none⟩ (.int .i64 ((st.came + 1 : Nat) : Int)) = W1 := ⟨_, rfl⟩
    have hc1 : ((st.came + 1 : Nat) : Int) = (st.came : Int) + 1 := by omega
    have hcw : IntKind.i64.wrap ((st.came : Int) + 1) = ((st.came + 1 : Nat) : Int) := by rw [hc1]; exact IntWalk.i64_in _ (by omega)
    obtain ⟨cx, fx⟩ := one_cell hS.cx
    obtain ⟨cx1, fx1⟩ := one_cell S1.cx
    obtain ⟨cu1, fu1⟩ := one_cell S1.cu
    obtain ⟨uo, uc, hu⟩ : ∃ a cp, uv = .slice a st.un.length cp := by
      obtain ⟨a, c, e, _⟩ := reads_own hS.un
      exact ⟨a, c, by rw [e, nats_length]⟩
    rw [hW1] at S1 F1 cx1 cu1 fx1 fu1
    simp only at cx1
    have HS1 : Hid (TSt ps v w b { st with came := st.came + 1 } uv gv L W1) := S1
    have HF1 : Hid (Frm b W uv gv W1 uv gv) := F1
    have HW1 : Hid _ := hW1
    have HIH : Hid _ := ih
    obtain ⟨cm, hcm⟩ : ∃ cm, st.came + 1 = cm := ⟨_, rfl⟩
    rw [hcm] at hcw cx1 HW1
    have HCM : Hid _ := hcm
    subst hu
    clear hS S1 F1 hW1 ih hc1 hcm
    go_enter Try.func108, Try.ntmps108
    go_wp2_with fail
    rw [HW1.out]
    go_quiet (fail)
    rename_i nq
    have BD := below_drewN (Below.refl W1.heap.size W1) nq
    obtain ⟨W2, hW2⟩ : ∃ W2, W1.drewN nq = W2 := ⟨_, rfl⟩
    rw [hW2] at BD ⊢
    have S2 := HS1.out.kept BD
    have HF2 : Hid (Frm b W (.slice uo st.un.length uc) gv W2 (.slice uo st.un.length uc) gv) := HF1.out.trans (Frm.of_below BD b _ _)
    rw [HCM.out] at S2
    have S3 := S2.setT (p := p) (by omega) hI.len cm
    have HF3 : Hid (Frm b W (.slice uo st.un.length uc) gv (W2.setCell ⟨b + 3, p, none⟩ (.int .i64 (cm : Int))) (.slice uo st.un.length uc) gv) := HF2.out.trans (Frm.of_box (by omega) (grown_setCell1 W2 (b + 3) p _) _ _)
    obtain ⟨ct2, ft2⟩ := S2.turn (i := p) (by omega)
    obtain ⟨cu3, fu3⟩ := one_cell S3.cu
    have z3 : (W2.setCell ⟨b + 3, p, none⟩ (.int .i64 (cm : Int))).heap.size = W2.heap.size := by simp
    have B4 : Below (W2.setCell ⟨b + 3, p, none⟩ (.int .i64 (cm : Int))).heap.size (W2.setCell ⟨b + 3, p, none⟩ (.int .i64 (cm : Int))) ((W2.setCell ⟨b + 3, p, none⟩ (.int .i64 (cm : Int))).alloc (.cells #[.int .i64 (p : Int)] 2)) := by go_grown
    have S4 := S3.kept B4
    have HF4 : Hid (Frm b W (.slice uo st.un.length uc) gv ((W2.setCell ⟨b + 3, p, none⟩ (.int .i64 (cm : Int))).alloc (.cells #[.int .i64 (p : Int)] 2)) (.slice uo st.un.length uc) gv) := HF3.out.trans (Frm.of_below B4 b _ _)
    have HS4 : Hid (TSt ps v w b { came := cm, turns := st.turns.set p cm, un := st.un, groups := st.groups } (.slice uo st.un.length uc) gv L ((W2.setCell ⟨b + 3, p, none⟩ (.int .i64 (cm : Int))).alloc (.cells #[.int .i64 (p : Int)] 2))) := S4
    have hun4 := S4.un
    simp only at hun4
    have HUN4 : Hid (((W2.setCell ⟨b + 3, p, none⟩ (.int .i64 (cm : Int))).alloc (.cells #[.int .i64 (p : Int)] 2)).ownsRow (b + 6) 2 1 (.slice uo st.un.length uc) st.un.length (nats st.un)) := hun4
    have HC1 : Hid (∀ (j : Nat) (u : Value), [Value.int .i64 (p : Int)][j]? = some u → ((W2.setCell ⟨b + 3, p, none⟩ (.int .i64 (cm : Int))).alloc (.cells #[.int .i64 (p : Int)] 2)).cell? ((⟨W2.heap.size, 0, none⟩ : Addr).add j) = some u) := by
      have := cell_one (W2.setCell ⟨b + 3, p, none⟩ (.int .i64 (cm : Int))) (p : Int)
      rw [z3] at this
      exact this
    have zs3 := S3.size
    rw [z3] at zs3
    clear S2 S3 S4 hW2 cx fx cx1 fx1 cu1 fu1 HF1 HF2 HF3 HS1 hun4 B4 z3
    go_wp2_with (first
      | (at_builtin; refine wpList_append_lies _ rfl (.tmp 24) (.tmp 26) 30 rfl (b + 6) 2 i0 (.int .i64 0) 1 8 Try.underlying30 hi hz0 hz1 hz2 rfl (by decide) _ st.un.length (nats st.un) rfl HUN4.out ⟨W2.heap.size, 0, none⟩ 1 1 [.int .i64 (p : Int)] rfl rfl HC1.out (ints_oneCell [(p : Int)]) (by decide) (by unfold maxLen; omega) (by omega) (by simp; omega) _ rfl ?_; intro g5 c5 w5 own5 grow5 pl5 lt5; (have cu5 : w5.cell? ⟨b + 2, 0, none⟩ = some (.slice uo st.un.length uc) := (one_cell ((grow5.block (b + 2) (by simp; omega) (fun e => by have := (HUN4.out.lt _ e.symm).1; omega)).trans HS4.out.cu)).1); (have fu5 : w5.frozen? ⟨b + 2, 0, none⟩ = false := (one_cell ((grow5.block (b + 2) (by simp; omega) (fun e => by have := (HUN4.out.lt _ e.symm).1; omega)).trans HS4.out.cu)).2); (have cp5 : (w5.setCell ⟨b + 2, 0, none⟩ (.slice (some ⟨g5, 0, none⟩) (st.un.length + 1) c5)).cell? ⟨b, 0, none⟩ = some v := (one_cell (((grown_setCell1 w5 (b + 2) 0 (.slice (some ⟨g5, 0, none⟩) (st.un.length + 1) c5)).block b (by have := grow5.size; simp at this; omega) (fun e => by simp at e)).trans ((grow5.block b (by simp; omega) (fun e => by have := (HUN4.out.lt _ e.symm).1; omega)).trans HS4.out.cp))).1))
      | fail)
    have e5 : nats (st.un ++ [p]) = nats st.un ++ [.int .i64 (p : Int)] := by simp [nats, ints]
    have own5' : w5.ownsRow (b + 6) 2 1 (.slice (some ⟨g5, 0, none⟩) (st.un.length + 1) c5) (st.un ++ [p]).length (nats (st.un ++ [p])) := by
      rw [e5, List.length_append]
      exact own5
    have zz := grow5.size
    have S5 := HS4.out.setU grow5 own5' (fun k hk => by
      have e : g5 = k := by simpa [Value.ownBlock] using hk
      subst e
      rcases pl5 with h | h
      · exact .inl h
      · exact .inr (Nat.le_of_eq h.symm))
    have F5 : Frm b W (.slice uo st.un.length uc) gv (w5.setCell ⟨b + 2, 0, none⟩ (.slice (some ⟨g5, 0, none⟩) (st.un.length + 1) c5)) (.slice (some ⟨g5, 0, none⟩) (st.un.length + 1) c5) gv := by
      refine HF4.out.trans ⟨by simpa using zz, fun k hk hB h1 h2 => ?_, fun k hk => ?_, fun k hk => .inl hk⟩
      · refine ((grown_setCell1 w5 (b + 2) 0 (.slice (some ⟨g5, 0, none⟩) (st.un.length + 1) c5)).block k (by omega) (fun e => by simp at e; omega)).trans (grow5.block k hk (fun e => h1 e.symm))
      · have e : g5 = k := by simpa [Value.ownBlock] using hk
        subst e
        rcases pl5 with h | h
        · exact .inl h
        · exact .inr (Nat.le_of_eq h.symm)
    have hbeg : beg p st = { came := cm, turns := st.turns.set p cm, un := st.un ++ [p], groups := st.groups } := by rw [← HCM.out]; rfl
    have S5' : TSt ps v w b (beg p st) (.slice (some ⟨g5, 0, none⟩) (st.un.length + 1) c5) gv L (w5.setCell ⟨b + 2, 0, none⟩ (.slice (some ⟨g5, 0, none⟩) (st.un.length + 1) c5)) := by rw [hbeg]; exact S5
    obtain ⟨W5, hW5⟩ : ∃ W5, w5.setCell ⟨b + 2, 0, none⟩ (.slice (some ⟨g5, 0, none⟩) (st.un.length + 1) c5) = W5 := ⟨_, rfl⟩
    obtain ⟨uv5, huv5⟩ : ∃ x, Value.slice (some ⟨g5, 0, none⟩) (st.un.length + 1) c5 = x := ⟨_, rfl⟩
    rw [hW5, huv5] at F5 S5'
    rw [hW5]
    have HS5 : Hid (TSt ps v w b (beg p st) uv5 gv L W5) := S5'
    have HF5 : Hid (Frm b W (.slice uo st.un.length uc) gv W5 uv5 gv) := F5
    have hca := implCalls ps (p : Int) v W5 hl hp (readsP_below hv S5'.below)
    rw [callsAns_callG hok hpl, callG_NC hok, List.length_map] at hca
    have zs5 := S5'.size
    have us5 : ∀ k, uv5.ownBlock = some k → k < W5.heap.size := fun k hk => (S5'.un.lt k hk).2
    have HGM : Hid (cm = st.came + 1) := HCM.out.symm
    have HMID0 : Hid (VMid p (st.came + 1) (beg p st) (st.came + 1, beg p st)) := hmid0
    clear HS4 HF4 HUN4 HC1 own5 own5' grow5 pl5 lt5 cu5 fu5 cp5 e5 hW5 huv5 S5 S5' F5 hmid0 cu3 fu3 ct2 ft2 zz
    obtain ⟨C, hC0⟩ : ∃ C, NC ps p = C := ⟨_, rfl⟩
    rw [hC0] at hca
    have HC0 : Hid _ := hC0
    have hCin : ∀ y ∈ C, y < ps.length := fun y hy => NC_lt (by rw [hC0]; exact hy)
    have hCl : C.length ≤ 4 := by
      have h1 := (graph_of hok).len p
      rw [callG_NC hok, List.length_map, hC0] at h1
      exact h1
    clear hC0
    go_at_call 9
    refine hca.mono ?_
    rintro e w6 ⟨u, rfl, ou, b6⟩
    clear hca
    have ou : w6.ownsRow W5.heap.size 2 1 u C.length (nats C) := ou
    have S6 : Hid (TSt ps v w b (beg p st) uv5 gv L w6) := HS5.out.kept b6
    have F6 : Hid (Frm b W (.slice uo st.un.length uc) gv w6 uv5 gv) := HF5.out.trans (Frm.of_below b6 b _ _)
    obtain ⟨ro, rc, hr⟩ : ∃ a cp, u = .slice a C.length cp := by
      obtain ⟨a, c, e, _⟩ := reads_own ou
      exact ⟨a, c, by rw [e, nats_length]⟩
    subst hr
    have hne6 : ∀ k, (Value.slice ro C.length rc).ownBlock = some k → uv5.ownBlock ≠ some k := fun k hk e => by
      have h1 := us5 k e
      have h2 := (ou.lt k hk).1
      omega
    have OU : Hid (w6.ownsRow W5.heap.size 2 1 (.slice ro C.length rc) C.length (nats C)) := ou
    have HNE6 : Hid _ := hne6
    have HCI : Hid _ := hCin
    clear ou hne6 us5 HS5 HF5 b6 hCin
    go_wp2
    go_loopw [10, 32] (fun lv iv wr => ∃ (k : Nat) (a : Nat × TS) (uw gw : Value) (Lw : List LV), k ≤ C.length ∧ iv = .int .i64 k ∧ lv = .int .i64 (a.1 : Nat) ∧ a = (C.take k).foldl (stepV (visit (NC ps) f)) (st.came + 1, beg p st) ∧ TSt ps v w b a.2 uw gw Lw wr ∧ Frm b W (.slice uo st.un.length uc) gv wr uw gw ∧
        wr.ownsRow W5.heap.size 2 1 (.slice ro C.length rc) C.length (nats C) ∧ ∀ q, (Value.slice ro C.length rc).ownBlock = some q → uw.ownBlock ≠ some q) (fun _ iv _ => C.length - (intOf iv).toNat)
    case atStart => exact ⟨0, (st.came + 1, beg p st), uv5, gv, L, Nat.zero_le _, rfl, by rw [HGM.out], rfl, S6.out, F6.out, OU.out, HNE6.out⟩
    case round =>
      obtain ⟨k, a, uw, gw, Lw, hk, rfl, rfl, ha, hS, hF, hown, hne⟩ := hrel
      clear S6 F6 OU HNE6
      have hmid : VMid p (st.came + 1) (beg p st) a := by
        rw [ha]
        have hz1 := zeros_set (t := st.turns) (p := p) (v := st.came + 1) (by rw [hI.len]; omega) h0 (by omega)
        exact VMid.fold (f := f) (V := visit (NC ps) f) (by simp only [beg]; omega) (fun c s hc hi h0' hz' => visit_keep (NC ps) hC f c s hc hi h0' hz') (C.take k) _ (fun c hc => by have := HCI.out c (List.mem_of_mem_take hc); omega) HMID0.out
      have hzf : zeros a.2.turns ≤ f := by
        have hz1 := zeros_set (t := st.turns) (p := p) (v := st.came + 1) (by rw [hI.len]; omega) h0 (by omega)
        have := hmid.less
        simp only [beg] at this
        omega
      have HA : Hid _ := ha
      have HMID : Hid (VMid p (st.came + 1) (beg p st) a) := hmid
      have HSA : Hid (TSt ps v w b a.2 uw gw Lw wr) := hS
      have HFA : Hid (Frm b W (.slice uo st.un.length uc) gv wr uw gw) := hF
      have HOA : Hid (wr.ownsRow W5.heap.size 2 1 (.slice ro C.length rc) C.length (nats C)) := hown
      have HNA : Hid (∀ q, (Value.slice ro C.length rc).ownBlock = some q → uw.ownBlock ≠ some q) := hne
      by_cases hlt : k < C.length
      · have hlt' : (k : Int) < (C.length : Int) := by omega
        obtain ⟨y, hy⟩ : ∃ y, C[k] = y := ⟨_, rfl⟩
        have hyl : y < ps.length := by rw [← hy]; exact HCI.out _ (List.getElem_mem hlt)
        obtain ⟨gu, hue⟩ : ∃ gu, ro = some ⟨gu, 0, none⟩ := by
          rcases own_shape hown with ⟨_, e, _⟩ | ⟨gu, cp, e, _⟩
          · omega
          · exact ⟨gu, by cases e; rfl⟩
        subst hue
        have cr : wr.cell? ⟨gu, k, none⟩ = some (.int .i64 (y : Int)) := by
          rw [hown.cellAt k (by omega), nats_get hlt]
          simp [List.getD, hlt, hy]
        have hsn : (C.take (k + 1)).foldl (stepV (visit (NC ps) f)) (st.came + 1, beg p st) = stepV (visit (NC ps) f) a y := by
          rw [List.take_succ_eq_append_getElem hlt, List.foldl_append, ← ha, hy]
          rfl
        have HSN : Hid _ := hsn
        have hy4 : (y : Int) < 4 := by omega
        obtain ⟨ct, _⟩ := hS.turn (i := y) (by omega)
        obtain ⟨cK, _⟩ := one_cell hS.ck
        obtain ⟨cU, _⟩ := one_cell hS.cu
        obtain ⟨t0, ht0⟩ : ∃ t0, a.2.turns.getD y 0 = t0 := ⟨_, rfl⟩
        rw [ht0] at ct
        have HT0 : Hid _ := ht0
        obtain ⟨wo, wc, hwv⟩ : ∃ x cp, uw = .slice x a.2.un.length cp := by
          obtain ⟨x, c, e, _⟩ := reads_own hS.un
          exact ⟨x, c, by rw [e, nats_length]⟩
        have hun4 : a.2.un.length ≤ 4 := by have h1 := hmid.inv.few; have h2 := hmid.inv.zer; omega
        by_cases ht : t0 = 0
        · have hcall := HIH.out y a.2 uw gw Lw wr hyl hmid.inv (by rw [ht0]; exact ht) hzf hS
          have HE : Hid (stepV (visit (NC ps) f) a y = (minN a.1 (visit (NC ps) f y a.2).1, (visit (NC ps) f y a.2).2)) := by
            show stepV (visit (NC ps) f) a y = _
            unfold stepV
            rw [ht0, ht]
            rfl
          subst ht
          clear ha hmid hS hF hown hne hsn ht0
          go_wp2_with fail
          go_at_call 108
          refine hcall.mono ?_
          rintro e w7 ⟨rfl, uv7, gv7, L7, S7, F7⟩
          clear hcall
          obtain ⟨or7, ne7⟩ := F7.row HSA.out.gr.row HOA.out (by omega) HNA.out
          have HS7 : Hid _ := S7
          have HF7 : Hid _ := HFA.out.trans F7
          have HO7 : Hid (w7.ownsRow W5.heap.size 2 1 (.slice (some ⟨gu, 0, none⟩) C.length rc) C.length (nats C)) := or7
          have HN7 : Hid _ := ne7
          obtain ⟨r, hr⟩ : ∃ r, visit (NC ps) f y a.2 = r := ⟨_, rfl⟩
          rw [hr] at HS7 HE ⊢
          clear S7 F7 or7 ne7 hr
          go_wp2
          go_roundw
          case rel => exact ⟨k + 1, (minN a.1 r.1, r.2), uv7, gv7, L7, by omega, by go_num, by rw [min_if], by rw [HSN.out, HE.out], HS7.out, HF7.out, HO7.out, HN7.out⟩
          case measure => simp [intOf]; omega
        · have htb : ((t0 : Int) == 0) = false := by simp; omega
          have htb2 : ¬ (t0 : Int) = 0 := by omega
          have hcont := sliceContains (a.2.un.map (fun x : Nat => (x : Int))) (y : Int) uw wr (by rw [List.length_map]; unfold maxLen; omega) (reads_own hS.un)
          rw [hasI_hasN] at hcont
          rw [hwv] at cU hcont
          have hb0 : Nat.beq (a.2.turns.getD y 0) 0 = false := by rw [ht0]; exact beq0f.2 ht
          cases hh : hasN a.2.un y with
          | true =>
            rw [hh] at hcont
            have HE : Hid (stepV (visit (NC ps) f) a y = (minN a.1 t0, a.2)) := by
              show stepV (visit (NC ps) f) a y = _
              unfold stepV
              rw [hb0, hh, ht0]
              rfl
            clear ha hmid hS hF hown hne hsn ht0 hwv hb0 hh
            go_wp2_with fail
            go_at_call 93
            refine hcont.mono ?_
            rintro e w7 ⟨rfl, rfl⟩
            clear hcont
            go_wp2
            go_roundw
            case rel => exact ⟨k + 1, (minN a.1 t0, a.2), uw, gw, Lw, by omega, by go_num, by rw [min_if], by rw [HSN.out, HE.out], HSA.out, HFA.out, HOA.out, HNA.out⟩
            case measure => simp [intOf]; omega
          | false =>
            rw [hh] at hcont
            have HE : Hid (stepV (visit (NC ps) f) a y = a) := by
              show stepV (visit (NC ps) f) a y = _
              unfold stepV
              rw [hb0, hh]
              rfl
            clear ha hmid hS hF hown hne hsn ht0 hwv hb0 hh
            go_wp2_with fail
            go_at_call 93
            refine hcont.mono ?_
            rintro e w7 ⟨rfl, rfl⟩
            clear hcont
            go_wp2
            go_roundw
            case rel => exact ⟨k + 1, a, uw, gw, Lw, by omega, by go_num, rfl, by rw [HSN.out, HE.out], HSA.out, HFA.out, HOA.out, HNA.out⟩
            case measure => simp [intOf]; omega
      · obtain rfl : k = C.length := by omega
        rw [List.take_length] at ha
        have HVIS : Hid (visit (NC ps) (f + 1) p st = fin st.un.length (st.came + 1) a) := by
          show fin st.un.length (st.came + 1) ((NC ps p).foldl (stepV (visit (NC ps) f)) (st.came + 1, beg p st)) = _
          rw [HC0.out, ← ha]
        have hge : ¬ (C.length : Int) < (C.length : Int) := by omega
        by_cases hfin : a.1 = cm
        · have hfb : ((a.1 : Int) == (cm : Int)) = true := by rw [hfin]; simp
          have HV2 : Hid (visit (NC ps) (f + 1) p st = (a.1, ⟨a.2.came, a.2.turns, a.2.un.take st.un.length, a.2.groups ++ [isrt Nat.blt 0 (a.2.un.drop st.un.length)]⟩)) := by
            show visit (NC ps) (f + 1) p st = _
            rw [HVIS.out]
            unfold fin
            have : Nat.beq a.1 (st.came + 1) = true := by rw [hfin, HGM.out]; exact Nat.beq_refl _
            rw [this]
            rfl
          obtain ⟨tl, htl⟩ := hmid.pre
          have hlen : st.un.length + 1 ≤ a.2.un.length := by rw [htl]; simp [beg]
          have hun4 : a.2.un.length ≤ 4 := by have h1 := hmid.inv.few; have h2 := hmid.inv.zer; omega
          have hgr4 : a.2.groups.length ≤ 4 := by have h1 := hmid.inv.few; have h2 := hmid.inv.zer; omega
          obtain ⟨gq, wc, hwv⟩ : ∃ gq wc, uw = .slice (some ⟨gq, 0, none⟩) a.2.un.length wc := by
            rcases own_shape hS.un with ⟨_, e, _⟩ | ⟨gu, cp, e, _⟩
            · omega
            · exact ⟨gu, cp, e⟩
          subst hwv
          have hcapw : a.2.un.length ≤ wc ∧ wc ≤ maxLen := by
            rcases hS.un.2 with ⟨h, _⟩ | ⟨g', cap', cur, h, _, _, h1, h2, _⟩
            · cases h
            · simp only [Value.slice.injEq] at h
              obtain ⟨_, _, rfl⟩ := h
              exact ⟨h1, h2⟩
          obtain ⟨hcw1, hcw2⟩ := hcapw
          unfold maxLen at hcw2
          have rdd := reads_drop hS.un (k := st.un.length) (by omega) (wc - st.un.length)
          rw [← nats_drop] at rdd
          have hdl : (a.2.un.drop st.un.length).length = a.2.un.length - st.un.length := by simp
          have hclone := sliceClone ((a.2.un.drop st.un.length).map (fun x : Nat => (x : Int))) _ wr (by rw [List.length_map]; omega) (by rw [List.length_map]; omega) rdd
          rw [List.length_map] at hclone
          obtain ⟨cU, _⟩ := one_cell hS.cu
          obtain ⟨D, hD⟩ : ∃ D, a.2.un.drop st.un.length = D := ⟨_, rfl⟩
          have HD : Hid _ := hD
          rw [hD] at hclone hdl
          obtain ⟨N, hN⟩ : ∃ N, a.2.un.length = N := ⟨_, rfl⟩
          have HN : Hid _ := hN
          obtain ⟨M, hM⟩ : ∃ M, st.un.length = M := ⟨_, rfl⟩
          have HM : Hid _ := hM
          have hck : ¬ wc = M := by omega
          have hMN : (M : Int) ≤ (N : Int) := by omega
          have hMN2 : M ≤ N := by omega
          rw [hN] at cU hclone hlen hcw1 hdl hun4
          rw [hM] at hclone hlen hdl hunl
          have hNw : (N : Int) ≤ (wc : Int) := by omega
          have hD4 : D.length ≤ 4 := by omega
          have hD1 : 1 ≤ D.length := by omega
          have HDL : Hid _ := hdl
          clear hdl
          clear ha hmid hS hF hown hne HVIS rdd hD
          go_wp2_with fail
          go_at_call 109
          refine hclone.mono ?_
          rintro e w8 ⟨g8, c8, rfl, own8, b8⟩
          clear hclone
          have own8 : w8.ownsRow wr.heap.size 2 1 (.slice (some ⟨g8, 0, none⟩) D.length c8) D.length (nats D) := own8
          have hg8 := own8.lt g8 rfl
          have hsort := sortOrd D g8 c8 wr.heap.size w8 (by omega) own8
          go_wp2_with fail
          go_at_call 110
          refine hsort.mono ?_
          rintro e w9 ⟨⟨x9, rfl⟩, own9, gr9⟩
          clear hsort own8
          obtain ⟨E, hE⟩ : ∃ E, isrt Nat.blt 0 D = E := ⟨_, rfl⟩
          have HEL : Hid (E.length = D.length) := by
            show E.length = D.length
            rw [← hE]; exact isrt_length _ _ _
          have HE : Hid _ := hE
          rw [hE] at own9
          have B9 : Below wr.heap.size wr w9 := b8.grown gr9 b8.size (fun k e => by cases e; exact hg8.1)
          have S9 := HSA.out.kept B9
          have z9 := B9.size
          have BA : Below w9.heap.size w9 (w9.alloc (.cells #[.slice (some ⟨g8, 0, none⟩) D.length c8] 30)) := by go_grown
          have SA := S9.kept BA
          have ownA : (w9.alloc (.cells #[.slice (some ⟨g8, 0, none⟩) D.length c8] 30)).ownsRow (b + 6) 2 1 (.slice (some ⟨g8, 0, none⟩) D.length c8) E.length (nats E) := by
            rw [HEL.out]
            exact own_kept (own_mono own9 (by have := HSA.out.size; omega)) BA
          obtain ⟨cg9, fg9⟩ := one_cell S9.cg
          have hLl : Lw.length = a.2.groups.length := by rw [← SA.gs]; simp
          have hL4 : Lw.length ≤ 4 := by omega
          clear hLl
          have HSAA : Hid _ := SA
          have HROW : Hid ((w9.alloc (.cells #[.slice (some ⟨g8, 0, none⟩) D.length c8] 30)).ownsRow (b + 6) 30 1 gw Lw.length (Lw.map Prod.fst)) := SA.gr.row
          obtain ⟨i1, hjS, hy0, hy1, hy2⟩ := info_parts infoSlice
          have HC1 : Hid (∀ (j : Nat) (u : Value), [Value.slice (some ⟨g8, 0, none⟩) D.length c8][j]? = some u → (w9.alloc (.cells #[.slice (some ⟨g8, 0, none⟩) D.length c8] 30)).cell? ((⟨w9.heap.size, 0, none⟩ : Addr).add j) = some u) := by
            have := World.news_of_block (heap_alloc_new w9 (.cells #[.slice (some ⟨g8, 0, none⟩) D.length c8] 30))
            simp at this
            exact this
          obtain ⟨go_, gn_, gc_, hgw⟩ : ∃ x n c, gw = .slice x n c := by
            obtain ⟨x, c, e, _⟩ := reads_own S9.gr.row
            exact ⟨_, _, _, e⟩
          have HGW : Hid _ := hgw
          have zS9 := S9.size
          have hgq := HSA.out.un.lt gq rfl
          have HK : Hid (∀ g10 c10 w10, w10.ownsRow (b + 6) 30 1 (.slice (some ⟨g10, 0, none⟩) (Lw.length + 1) c10) (Lw.length + 1) (Lw.map Prod.fst ++ [.slice (some ⟨g8, 0, none⟩) D.length c8]) → (w9.alloc (.cells #[.slice (some ⟨g8, 0, none⟩) D.length c8] 30)).grownBy w10 gw.ownBlock → (gw.ownBlock = some g10 ∨ g10 = (w9.alloc (.cells #[.slice (some ⟨g8, 0, none⟩) D.length c8] 30)).heap.size) →
              w10.cell? ⟨b + 1, 0, none⟩ = some gw ∧ w10.frozen? ⟨b + 1, 0, none⟩ = false ∧ TSt ps v w b { a.2 with groups := a.2.groups ++ [E] } (.slice (some ⟨gq, 0, none⟩) a.2.un.length wc) (.slice (some ⟨g10, 0, none⟩) (Lw.length + 1) c10) (Lw ++ [(.slice (some ⟨g8, 0, none⟩) D.length c8, E)]) (w10.setCell ⟨b + 1, 0, none⟩ (.slice (some ⟨g10, 0, none⟩) (Lw.length + 1) c10)) ∧
              Frm b wr (.slice (some ⟨gq, 0, none⟩) a.2.un.length wc) gw (w10.setCell ⟨b + 1, 0, none⟩ (.slice (some ⟨g10, 0, none⟩) (Lw.length + 1) c10)) (.slice (some ⟨gq, 0, none⟩) a.2.un.length wc) (.slice (some ⟨g10, 0, none⟩) (Lw.length + 1) c10)) := by
            intro g10 c10 w10 o10 gr10 pl10
            have zz := gr10.size
            have bx : w10.heap[b + 1]? = some (.cells #[gw] 52 (0, 0)) := (gr10.block (b + 1) (by simp; omega) (fun e => by have := (SA.gr.row.lt _ e.symm).1; omega)).trans SA.cg
            have hn10 : ∀ k, (Value.slice (some ⟨g10, 0, none⟩) (Lw.length + 1) c10).ownBlock = some k → gw.ownBlock = some k ∨ (w9.alloc (.cells #[.slice (some ⟨g8, 0, none⟩) D.length c8] 30)).heap.size ≤ k := fun k hk => by
              have e : g10 = k := by simpa [Value.ownBlock] using hk
              subst e
              rcases pl10 with h | h
              · exact .inl h
              · exact .inr (Nat.le_of_eq h.symm)
            refine ⟨(one_cell bx).1, (one_cell bx).2, ?_, ?_⟩
            · refine SA.setG (x := (.slice (some ⟨g8, 0, none⟩) D.length c8, E)) (fun e => ?_) ownA (fun k hk e => ?_) (fun y hy k hk e => ?_) gr10 o10 hn10
              · have := HEL.out
                have e' : E = [] := e
                rw [e'] at this
                simp at this
                omega
              · have e1 : g8 = k := by simpa [Value.ownBlock] using hk
                have e2 : gq = k := by simpa [Value.ownBlock] using e
                omega
              · have e1 : g8 = k := by simpa [Value.ownBlock] using e
                have := ((HSA.out.gr.each y hy).2.lt k hk).2
                omega
            · refine ⟨by have := BA.size; simpa using (by omega : wr.heap.size ≤ w10.heap.size), fun k hk hB h1 h2 => ?_, fun k hk => .inl hk, fun k hk => ?_⟩
              · refine ((grown_setCell1 w10 (b + 1) 0 _).block k (by have := BA.size; omega) (fun e => by simp at e; omega)).trans ((gr10.block k (by have := BA.size; omega) (fun e => h2 e.symm)).trans ((BA.block k (by omega)).trans (B9.block k hk)))
              · rcases hn10 k hk with h | h
                · exact .inl h
                · exact .inr (by have := BA.size; omega)
          rw [hgw] at cg9
          clear S9 SA own9 hE ownA BA
          go_wp2_with (first
            | (at_builtin; refine wpList_append_lies _ rfl (.tmp 63) (.tmp 65) 52 rfl (b + 6) 30 i1 (.slice none 0 0) 1 24 Try.underlying52 hjS hy0 hy1 hy2 rfl (by decide) gw Lw.length (Lw.map Prod.fst) HGW.out.symm HROW.out ⟨w9.heap.size, 0, none⟩ 1 1 [.slice (some ⟨g8, 0, none⟩) D.length c8] rfl rfl HC1.out (by intro y hy; simp at hy; subst hy; rfl) (by decide) (by unfold maxLen; omega) (by omega) (by simp; omega) _ rfl ?_; intro g10 c10 w10 own10 grow10 pl10 lt10; obtain ⟨k1, k2, k3, k4⟩ := HK.out g10 c10 w10 own10 grow10 pl10; (have K3 : Hid _ := k3); (have K4 : Hid _ := k4); (rw [HGW.out] at k1); (have ku : (w10.setCell ⟨b + 1, 0, none⟩ (.slice (some ⟨g10, 0, none⟩) (Lw.length + 1) c10)).cell? ⟨b + 2, 0, none⟩ = some (.slice (some ⟨gq, 0, none⟩) N wc) := by (have := (one_cell K3.out.cu).1; rw [HN.out] at this; exact this)); (have kf : (w10.setCell ⟨b + 1, 0, none⟩ (.slice (some ⟨g10, 0, none⟩) (Lw.length + 1) c10)).frozen? ⟨b + 2, 0, none⟩ = false := (one_cell K3.out.cu).2); clear k3 k4)
            | fail)
          have KK : Hid _ := K3.out.setU (World.grownBy.refl _ _) (uv' := .slice (some ⟨gq, 0, none⟩) M wc) (xs := a.2.un.take M) (by
            have h1 := own_take K3.out.un (k := M) (by have := HN.out; show M ≤ a.2.un.length; omega)
            have h2 : (a.2.un.take M).length = M := by rw [List.length_take]; have := HN.out; omega
            rw [h2, nats_take]
            exact h1) (fun k hk => .inl hk)
          have HFF : Hid (a.1 = cm) := hfin
          have KF : Hid (Frm b W (.slice uo st.un.length uc) gv ((w10.setCell ⟨b + 1, 0, none⟩ (.slice (some ⟨g10, 0, none⟩) (Lw.length + 1) c10)).setCell ⟨b + 2, 0, none⟩ (.slice (some ⟨gq, 0, none⟩) M wc)) (.slice (some ⟨gq, 0, none⟩) M wc) (.slice (some ⟨g10, 0, none⟩) (Lw.length + 1) c10)) := by
            have hg := grown_setCell1 (w10.setCell ⟨b + 1, 0, none⟩ (.slice (some ⟨g10, 0, none⟩) (Lw.length + 1) c10)) (b + 2) 0 (.slice (some ⟨gq, 0, none⟩) M wc)
            exact HFA.out.trans (K4.out.trans ⟨hg.size, fun k hk hB _ _ => hg.block k hk (fun e => by simp at e; omega), fun k hk => .inl hk, fun k hk => .inl hk⟩)
          go_ret
          refine ⟨?_, _, _, Lw ++ [(.slice (some ⟨g8, 0, none⟩) D.length c8, E)], ?_, KF.out⟩
          · rw [HV2.out, HFF.out]
            rfl
          · rw [HV2.out, HD.out, HE.out, HM.out]
            exact KK.out
        · have hfb : ((a.1 : Int) == (cm : Int)) = false := by simp; omega
          have hfb2 : ¬ (a.1 : Int) = (cm : Int) := by omega
          have HV2 : Hid (visit (NC ps) (f + 1) p st = a) := by
            show visit (NC ps) (f + 1) p st = a
            rw [HVIS.out]
            unfold fin
            have : Nat.beq a.1 (st.came + 1) = false := by
              cases hb : Nat.beq a.1 (st.came + 1) with
              | false => rfl
              | true => exact absurd ((Nat.eq_of_beq_eq_true hb).trans HGM.out.symm) hfin
            rw [this]
            rfl
          clear ha hmid hS hF hown hne HVIS
          go_wp2
          go_ret
          exact ⟨by rw [HV2.out]; rfl, uw, gw, ⟨Lw, by rw [HV2.out]; exact HSA.out⟩, HFA.out⟩

end Go.Proofs.Ytmloeldgeegddaa
