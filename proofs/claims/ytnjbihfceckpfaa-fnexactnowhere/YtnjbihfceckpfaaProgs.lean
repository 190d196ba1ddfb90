/-
  Programs: toProcS, toProgram, szProcS, szProgram, eqProcS, eqProgram.
-/
import Derived.Test.YtnjbihfceckpfaaG15OpenProc
namespace Go.Proofs.Ytnjbihfceckpfaa
open Go.RowKit
set_option linter.unusedVariables false
set_option maxHeartbeats 1000000

/-- What toProgram makes: rows of its own, from block base on and below top. -/
def OwnP (w : World) (base top : Nat) (v : Value) (ps : List (List Stm)) : Prop :=
  ∃ us : List Value, w.ownsRow base 81 1 v ps.length us ∧ (∀ k, v.ownBlock = some k → k < top) ∧
    ∀ (j : Nat) (u : Value) (p : List Stm), us[j]? = some u → ps[j]? = some p → w.ownsRow base 92 3 u p.length (cells3 p) ∧ ∀ k, u.ownBlock = some k → k < top

theorem readsP_own {w : World} {base top : Nat} {v : Value} {ps : List (List Stm)} (h : OwnP w base top v ps) : ReadsP w v ps := by
  obtain ⟨us, ho, _, hu⟩ := h
  have hl := ho.1
  simp only [Nat.mul_one] at hl
  obtain ⟨ao, cap, rfl, hc⟩ := reads_own ho
  refine ⟨ao, cap, by rw [hl], fun j p hp => ?_⟩
  have hj : j < us.length := by
    rw [hl]
    exact (List.getElem?_eq_some_iff.1 hp).1
  obtain ⟨g, off, hg, hcell⟩ := hc j us[j] (by simp [hj])
  exact ⟨g, off, us[j], hg, hcell, reads3_own (hu j us[j] p (by simp [hj]) hp).1⟩

theorem ownP_kept {w w' : World} {base top : Nat} {v : Value} {ps : List (List Stm)} (h : OwnP w base top v ps) (hb : Below w.heap.size w w') : OwnP w' base top v ps := by
  obtain ⟨us, ho, ht, hu⟩ := h
  exact ⟨us, own_kept ho hb, ht, fun j u p h1 h2 => ⟨own_kept (hu j u p h1 h2).1 hb, (hu j u p h1 h2).2⟩⟩

theorem infoProc : (Try.prog.info? 81).map (fun i => (i.zero, i.size, i.bytes)) = some (some (.agg #[.slice none 0 0]), 1, 24) := by kernel_rfl

theorem set_snoc (us zs : List Value) (u : Value) (k : Nat) (hk : us.length = k) (hz : k < zs.length) : (us ++ zs.drop k).set k u = (us ++ [u]) ++ zs.drop (k + 1) := by
  subst hk
  rw [List.set_append_right _ _ (Nat.le_refl _), Nat.sub_self, List.drop_eq_getElem_cons hz, List.set_cons_zero, List.append_assoc]
  rfl

theorem toProcS (ps : List (List Stm)) (v : Value) (w : World) (hl : ps.length ≤ 1048576) (hp : ∀ p ∈ ps, p.length ≤ 1048576) (hv : ReadsP w v ps) :
    Calls Try.prog 43 #[v] w fun e w' => ∃ u, e = .returned u ∧ OwnP w' w.heap.size w'.heap.size u ps ∧ Below w.heap.size w w' := by
  obtain ⟨i0, hi, hz0, hz1, hz2⟩ := info_parts infoProc
  obtain ⟨ao, cap, rfl, hc⟩ := hv
  go_enter Try.func43, Try.ntmps43
  go_wp2_with (refine wpList_make_full _ rfl (.tmp 6) (.tmp 6) 28 rfl w.heap.size 81 i0 (.agg #[.slice none 0 0]) 1 Try.underlying28 hi hz0 hz1 .i64 .i64 _ _ ps.length rfl rfl rfl rfl (by rw [hz2]; omega) (by unfold maxLen; omega) (Nat.le_refl _) ?_; intro w1 own1 grow1)
  have zl : (madeCells (Value.agg #[.slice none 0 0]).cells (ps.length * 1)).toList.length = ps.length := by simpa using own1.1
  generalize (madeCells (Value.agg #[.slice none 0 0]).cells (ps.length * 1)).toList = zs at own1 zl
  have hb1 : Below w.heap.size w w1 := (Below.refl _ _).grown grow1 (Nat.le_refl _) (by simp)
  have sz1 : w.heap.size + 1 ≤ w1.heap.size := by have := (own1.lt w.heap.size rfl).2; omega
  go_loopw [4] (fun i wr => ∃ (k : Nat) (us : List Value), k ≤ ps.length ∧ us.length = k ∧ i = .int .i64 k ∧ wr.ownsRow w.heap.size 81 1 (.slice (some ⟨w.heap.size, 0, none⟩) ps.length ps.length) ps.length (us ++ zs.drop k) ∧ Below w.heap.size w wr ∧ w.heap.size + 1 ≤ wr.heap.size ∧
      ∀ (j : Nat) (u : Value) (p : List Stm), us[j]? = some u → ps[j]? = some p → wr.ownsRow (w.heap.size + 1) 92 3 u p.length (cells3 p)) (fun i _ => ps.length - (intOf i).toNat)
  case atStart => exact ⟨0, [], Nat.zero_le _, rfl, rfl, by simpa using own1, hb1, sz1, fun j u p h => by simp at h⟩
  case round =>
    obtain ⟨k, us, hk, hus, rfl, hown, hb, hsz, hin⟩ := hrel
    by_cases hlt : k < ps.length
    · have hpk : ps[k]? = some ps[k] := by simp [hlt]
      obtain ⟨g, off, u0, rfl, p0, r0⟩ := hc k ps[k] hpk
      have pl := hp ps[k] (List.getElem_mem hlt)
      have pB := World.block_lt_of_cell? w _ p0
      have p0 := (hb.cell pB).trans p0
      have r0 := reads3_below r0 hb
      have hlt' : (k : Int) < (ps.length : Int) := by omega
      have hset := set_snoc us zs
      obtain ⟨ua, un, uc, rfl⟩ := reads3_slice r0
      have ht := toProc ps[k] _ wr pl r0
      clear hc
      have HP : Hid _ := hpk
      clear hpk
      generalize ps[k] = q at *
      go_wp2_with fail
      go_at_call 74
      refine ht.mono ?_
      rintro e w2 ⟨u, rfl, ou, b2⟩
      have own2 := own_kept hown b2
      have hb2 := hb.trans (b2.mono hb.size)
      have s2 := b2.size
      have f0 := own2.frozenAt k
      obtain ⟨y0, c0⟩ := own_cell own2 k (by omega)
      have hst := (own2.stored k u).1
      rw [hset u k hus (by omega)] at hst
      have HS : Hid ((w2.setCell ⟨w.heap.size, k, none⟩ u).ownsRow w.heap.size 81 1 (.slice (some ⟨w.heap.size, 0, none⟩) ps.length ps.length) ps.length ((us ++ [u]) ++ zs.drop (k + 1))) := hst
      have hin2 : ∀ (j : Nat) (v : Value) (p : List Stm), (us ++ [u])[j]? = some v → ps[j]? = some p → w2.ownsRow (w.heap.size + 1) 92 3 v p.length (cells3 p) := by
        intro j v p h1 h2
        by_cases hj : j < us.length
        · rw [List.getElem?_append_left hj] at h1
          exact own_kept (hin j v p h1 h2) b2
        · have hj' : j = k := by
            have := (List.getElem?_eq_some_iff.1 h1).1
            simp at this
            omega
          subst hj'
          rw [HP.out] at h2
          simp [← hus] at h1
          obtain rfl := Option.some.inj h2
          subst h1
          exact own_mono ou (by omega)
      have HI : Hid _ := hin2
      clear hst hset hin hin2 ht
      obtain ⟨va, vn, vc, rfl⟩ := own_slice ou
      go_wp2
      go_roundw
      case rel => exact ⟨k + 1, us ++ [.slice va vn vc], by omega, by simp [hus], by go_num, HS.out, hb2.setCell (Nat.le_refl _) _, by simp [World.setCell]; omega,
        fun j v p h1 h2 => ownsRow_setCell_below (HI.out j v p h1 h2) (by simp) _⟩
      case measure => simp [intOf]; omega
    · have hkk : k = ps.length := by omega
      go_wp2
      go_ret
      rw [List.drop_of_length_le (by omega), List.append_nil] at hown
      refine ⟨_, rfl, ⟨us, hown, fun k hk => (hown.lt k hk).2, fun j u p h1 h2 => ⟨own_mono (hin j u p h1 h2) (by omega), fun k hk => ((hin j u p h1 h2).lt k hk).2⟩⟩, hb⟩

theorem ownP_other {w : World} {base top : Nat} {v : Value} {ps : List (List Stm)} (h : OwnP w base top v ps) {a : Addr} (ha : a.block < base ∨ top ≤ a.block) (u : Value) : OwnP (w.setCell a u) base top v ps := by
  obtain ⟨us, ho, ht, hu⟩ := h
  refine ⟨us, ownsRow_setCell_other ho (fun e => ?_) u, ht, fun j x p h1 h2 => ⟨ownsRow_setCell_other (hu j x p h1 h2).1 (fun e => ?_) u, (hu j x p h1 h2).2⟩⟩
  · have h1 := ht _ e
    have h2 := (ho.lt _ e).1
    omega
  · have h3 := (hu j x p h1 h2).2 _ e
    have h4 := ((hu j x p h1 h2).1.lt _ e).1
    omega

theorem ownP_mono {w : World} {base top base' top' : Nat} {v : Value} {ps : List (List Stm)} (h : OwnP w base top v ps) (hb : base' ≤ base) (ht' : top ≤ top') : OwnP w base' top' v ps := by
  obtain ⟨us, ho, ht, hu⟩ := h
  exact ⟨us, own_mono ho hb, fun k hk => Nat.lt_of_lt_of_le (ht k hk) ht', fun j x p h1 h2 => ⟨own_mono (hu j x p h1 h2).1 hb, fun k hk => Nat.lt_of_lt_of_le ((hu j x p h1 h2).2 k hk) ht'⟩⟩

theorem ownP_slice {w : World} {base top : Nat} {v : Value} {ps : List (List Stm)} (h : OwnP w base top v ps) : ∃ a m c, v = .slice a m c := by
  obtain ⟨us, ho, _⟩ := h
  exact own_slice ho

theorem toProgram (ps : List (List Stm)) (v : Value) (w : World) (hl : ps.length ≤ 1048576) (hp : ∀ p ∈ ps, p.length ≤ 1048576) (hv : ReadsP w v ps) :
    Calls Try.prog 11 #[.agg #[v]] w fun e w' => ∃ u, e = .returned (.agg #[u]) ∧ OwnP w' w.heap.size w'.heap.size u ps ∧ Below w.heap.size w w' := by
  have hb0 : Below w.heap.size w (((w.alloc (.cells #[v] 24)).alloc (.cells #[.slice none 0 0] 30)).alloc (.cells #[.slice none 0 0] 30)) := by go_grown
  go_enter Try.func11, Try.ntmps11
  go_wp2_with fail
  go_at_call 43
  refine (toProcS ps v _ hl hp (readsP_below hv hb0)).mono ?_
  rintro e w1 ⟨u, rfl, own1, b1⟩
  obtain ⟨H1, H2, H3, s1, L1⟩ := laid3 b1
  have z3 : (((w.alloc (.cells #[v] 24)).alloc (.cells #[.slice none 0 0] 30)).alloc (.cells #[.slice none 0 0] 30)).heap.size = w.heap.size + 3 := by simp
  rw [z3] at own1
  have own2 := ownP_other own1 (a := ⟨w.heap.size + 1 + 1, 0, none⟩) (.inl (by simp)) u
  have own3 := ownP_other own2 (a := ⟨w.heap.size + 1, 0, none⟩) (.inl (by simp)) u
  have G3 := one_set H3 u
  have G2 : (w1.setCell ⟨w.heap.size + 1 + 1, 0, none⟩ u).heap[w.heap.size + 1]? = _ := (Below.heap_setCell w1 ⟨w.heap.size + 1 + 1, 0, none⟩ u _ (by simp)).trans H2
  have G4 := one_set G2 u
  obtain ⟨c3, f3⟩ := one_cell H3
  obtain ⟨d3, g3⟩ := one_cell G3
  obtain ⟨d2, g2⟩ := one_cell G2
  obtain ⟨e2, i2⟩ := one_cell G4
  clear H1 H2 H3 G2 G3 G4 own1 own2
  obtain ⟨ua, un, uc, rfl⟩ := ownP_slice own3
  go_wp2
  refine bodyPost_ret (v := .agg #[.slice ua un uc]) (by simp [results, Try.results11, go_sem, e2]) rfl ?_
  exact ⟨_, rfl, ownP_mono own3 (by omega) (by simp [World.setCell]), (L1.setCell (by simp; omega) _).setCell (by simp) _⟩

theorem szProcS (ps : List (List Stm)) (v : Value) (w : World) (hl : ps.length ≤ maxLen) (hp : ∀ p ∈ ps, p.length ≤ maxLen) (hv : ReadsP w v ps) :
    Calls Try.prog 38 #[v, .int .i64 1048576] w fun e w' => ∃ r : Int, e = .returned (.int .i64 r) ∧ (0 ≤ r → ps.length ≤ 1048576 ∧ ∀ p ∈ ps, p.length ≤ 1048576) ∧ Below w.heap.size w w' := by
  have hl0 := hl
  unfold maxLen at hl
  obtain ⟨ao, cap, rfl, hc⟩ := hv
  by_cases h : (1048576 : Int) < (ps.length : Int)
  · have hx : (decide ((1048576 : Int) - (ps.length : Int) < 0)) = true := by simp; omega
    go_enter Try.func38, Try.ntmps38
    go_wp2
    go_ret
    exact ⟨-1, rfl, fun h => by omega, Below.refl _ _⟩
  have hx : (decide ((1048576 : Int) - (ps.length : Int) < 0)) = false := by simp; omega
  go_enter Try.func38, Try.ntmps38
  go_wp2
  go_loopw [1, 5] (fun l i wr => ∃ (r : Int) (k : Nat), 0 ≤ r ∧ r ≤ 1048576 ∧ k ≤ ps.length ∧ l = .int .i64 r ∧ i = .int .i64 k ∧ Below w.heap.size w wr ∧ ∀ p ∈ ps.take k, p.length ≤ 1048576) (fun _ i _ => ps.length - (intOf i).toNat)
  case atStart => exact ⟨1048576 - ps.length, 0, by omega, by omega, Nat.zero_le _, rfl, rfl, Below.refl _ _, by simp⟩
  case round =>
    obtain ⟨r, k, hr0, hr1, hk, rfl, rfl, hb, hall⟩ := hrel
    by_cases hlt : k < ps.length
    · obtain ⟨g, off, u0, rfl, p0, r0⟩ := hc k ps[k] (by simp [hlt])
      have pl := hp ps[k] (List.getElem_mem hlt)
      have p0 := (hb.cell (World.block_lt_of_cell? w _ p0)).trans p0
      have hlt' : (k : Int) < (ps.length : Int) := by omega
      obtain ⟨ua, uc, rfl, _⟩ := r0
      have hz := szProc ps[k].length ua uc r wr pl hr0 hr1
      have hst : ∀ p ∈ ps.take (k + 1), p ∈ ps.take k ∨ p = ps[k] := by
        intro p hp'
        rw [List.take_succ_eq_append_getElem hlt] at hp'
        rcases List.mem_append.1 hp' with h | h
        · exact .inl h
        · exact .inr (List.mem_singleton.1 h)
      have HA : Hid _ := hall
      have HT : Hid _ := hst
      clear hc hall hst
      generalize ps[k] = q at *
      by_cases hq : r < (q.length : Int)
      · rw [if_pos hq] at hz
        go_wp2_with (go_at_call 66; refine hz.mono ?_; rintro e w2 ⟨rfl, b2⟩)
        go_ret
        exact ⟨-1, rfl, fun h => by omega, hb.trans (b2.mono hb.size)⟩
      · rw [if_neg hq] at hz
        have hx2 : (decide (r - (q.length : Int) < 0)) = false := by simp; omega
        go_wp2_with (go_at_call 66; refine hz.mono ?_; rintro e w2 ⟨rfl, b2⟩)
        go_roundw
        case rel =>
          refine ⟨r - q.length, k + 1, by omega, by omega, by omega, rfl, by go_num, hb.trans (b2.mono hb.size), fun p hp' => ?_⟩
          rcases HT.out p hp' with h | rfl
          · exact HA.out p h
          · omega
        case measure => simp [intOf]; omega
    · have hkk : k = ps.length := by omega
      subst hkk
      go_wp2
      go_ret
      rw [List.take_length] at hall
      exact ⟨r, rfl, fun _ => ⟨by omega, hall⟩, hb⟩

theorem szProgram (ps : List (List Stm)) (v : Value) (w : World) (hl : ps.length ≤ maxLen) (hp : ∀ p ∈ ps, p.length ≤ maxLen) (hv : ReadsP w v ps) :
    Calls Try.prog 9 #[.agg #[v], .int .i64 1048576] w fun e w' => ∃ r : Int, e = .returned (.int .i64 r) ∧ (0 ≤ r → ps.length ≤ 1048576 ∧ ∀ p ∈ ps, p.length ≤ 1048576) ∧ Below w.heap.size w w' := by
  have hb0 : Below w.heap.size w (w.alloc (.cells #[v] 24)) := by go_grown
  go_enter Try.func9, Try.ntmps9
  go_wp2_with fail
  go_at_call 38
  refine (szProcS ps v _ hl hp (readsP_below hv hb0)).mono ?_
  rintro e w1 ⟨r, rfl, hr, b1⟩
  by_cases h0 : r < 0
  · have hx : (decide (r < 0)) = true := by simpa using h0
    go_wp2
    go_ret
    exact ⟨-1, rfl, fun h => by omega, hb0.trans (b1.mono hb0.size)⟩
  · have hx : (decide (r < 0)) = false := by simpa using h0
    have HR : Hid _ := hr
    clear hr
    go_wp2
    go_ret
    exact ⟨r, rfl, HR.out, hb0.trans (b1.mono hb0.size)⟩

theorem eqProcS (ps : List (List Stm)) (v u : Value) (w : World) (hl : ps.length ≤ maxLen) (hp : ∀ p ∈ ps, p.length ≤ maxLen) (hv : ReadsP w v ps) (hu : ReadsP w u ps) :
    Calls Try.prog 46 #[v, u] w fun e w' => e = .returned (.bool true) ∧ Below w.heap.size w w' := by
  unfold maxLen at hl
  obtain ⟨ao, cap, rfl, hc⟩ := hv
  obtain ⟨bo, cap', rfl, hd⟩ := hu
  go_enter Try.func46, Try.ntmps46
  go_wp2
  go_loopw [5] (fun i wr => ∃ k : Nat, k ≤ ps.length ∧ i = .int .i64 k ∧ Below w.heap.size w wr) (fun i _ => ps.length - (intOf i).toNat)
  case atStart => exact ⟨0, Nat.zero_le _, rfl, Below.refl _ _⟩
  case round =>
    obtain ⟨k, hk, rfl, hb⟩ := hrel
    by_cases hlt : k < ps.length
    · obtain ⟨g, off, x, rfl, p0, r0⟩ := hc k ps[k] (by simp [hlt])
      obtain ⟨g', off', y, rfl, q0, r1⟩ := hd k ps[k] (by simp [hlt])
      have pl := hp ps[k] (List.getElem_mem hlt)
      have p0 := cell_regrown ((hb.cell (World.block_lt_of_cell? w _ p0)).trans p0)
      have q0 := cell_regrown ((hb.cell (World.block_lt_of_cell? w _ q0)).trans q0)
      have r0 := reads3_below r0 hb
      have r1 := reads3_below r1 hb
      obtain ⟨xa, xn, xc, rfl⟩ := reads3_slice r0
      obtain ⟨ya, yn, yc, rfl⟩ := reads3_slice r1
      have hlt' : (k : Int) < (ps.length : Int) := by omega
      have he : ∀ d os, _ := fun d os => Calls.regrown_of (w := wr) (d := d) (os := os) (eqProc ps[k] (.slice xa xn xc) (.slice ya yn yc) _ pl (reads3_below r0 (below_regrown wr d os)) (reads3_below r1 (below_regrown wr d os)))
      clear hc hd
      generalize ps[k] = s at *
      go_wp2
      refine wp_region_quiet_below (by kernel_rfl) (by kernel_rfl) ?_
      repeat (go_big_quiet_step (exact he _ _))
      refine wpQuiet_nil ?_
      intro _ hw'
      obtain ⟨⟨dq, osq⟩, hw''⟩ := hw'
      subst hw''
      have hb' := hb.trans ((below_regrown wr dq osq).mono hb.size)
      go_wp2
      go_roundw
      case rel => exact ⟨k + 1, by omega, by go_num, hb'⟩
      case measure => simp [intOf]; omega
    · go_wp2
      go_ret
      exact ⟨rfl, hb⟩

theorem eqProgram (ps : List (List Stm)) (v u : Value) (w : World) (hl : ps.length ≤ maxLen) (hp : ∀ p ∈ ps, p.length ≤ maxLen) (hv : ReadsP w v ps) (hu : ReadsP w u ps) :
    Calls Try.prog 14 #[.agg #[v], .agg #[u]] w fun e w' => e = .returned (.bool true) ∧ Below w.heap.size w w' := by
  have hb0 : Below w.heap.size w ((w.alloc (.cells #[v] 30)).alloc (.cells #[u] 30)) := by go_grown
  go_enter Try.func14, Try.ntmps14
  go_wp2_with fail
  go_at_call 46
  refine (eqProcS ps v u _ hl hp (readsP_below hv hb0) (readsP_below hu hb0)).mono ?_
  rintro e w1 ⟨rfl, b1⟩
  go_wp2
  go_ret
  exact ⟨rfl, hb0.trans (b1.mono hb0.size)⟩

end Go.Proofs.Ytnjbihfceckpfaa
