/-
  Programs: toProcS, toProgram, szProcS, szProgram, eqProcS, eqProgram.
-/
import Derived.Test.YtggglcjdnllnjaaGreatDoorOpenProc
namespace Go.Proofs.YtggglcjdnllnjaaGreatDoor
open Go.RowKit
set_option linter.unusedVariables false
set_option maxHeartbeats 1000000

/-- What toProgram makes: rows of its own, from block base on and below top. -/
def OwnP (w : World) (base top : Nat) (v : Value) (ps : List (List Stm)) : Prop :=
  ∃ us : List Value, w.ownsRow base 121 1 v ps.length us ∧ (∀ k, v.ownBlock = some k → k < top) ∧
    ∀ (j : Nat) (u : Value) (p : List Stm), us[j]? = some u → ps[j]? = some p → w.ownsRow base 147 3 u p.length (cells3 p) ∧ ∀ k, u.ownBlock = some k → k < top

theorem readsP_own {w : World} {base top : Nat} {v : Value} {ps : List (List Stm)} (h : OwnP w base top v ps) : ReadsP w v ps := by
  obtain ⟨us, ho, _, hu⟩ := h
  have hl := ho.1
  simp only [Nat.mul_one] at hl
  obtain ⟨ao, cap, rfl, hc⟩ := reads_own ho
  refine ⟨ao, cap, by rw [hl], fun j p hp => ?_⟩
  have hj : j < us.length := by
    rw [hl]
    exact (List.getElem?_eq_some_iff.1 hp).1
  obtain ⟨g, off, hg, hcell⟩ := hc j us[j] (by simp [hj])
  exact ⟨g, off, us[j], hg, hcell, reads3_own (hu j us[j] p (by simp [hj]) hp).1⟩

theorem ownP_kept {w w' : World} {base top : Nat} {v : Value} {ps : List (List Stm)} (h : OwnP w base top v ps) (hb : Below w.heap.size w w') : OwnP w' base top v ps := by
  obtain ⟨us, ho, ht, hu⟩ := h
  exact ⟨us, own_kept ho hb, ht, fun j u p h1 h2 => ⟨own_kept (hu j u p h1 h2).1 hb, (hu j u p h1 h2).2⟩⟩

theorem infoProc : (Tryz.prog.info? 121).map (fun i => (i.zero, i.size, i.bytes)) = some (some (.agg #[.slice none 0 0]), 1, 24) := by kernel_rfl

theorem set_snoc (us zs : List Value) (u : Value) (k : Nat) (hk : us.length = k) (hz : k < zs.length) : (us ++ zs.drop k).set k u = (us ++ [u]) ++ zs.drop (k + 1) := by
  subst hk
  rw [List.set_append_right _ _ (Nat.le_refl _), Nat.sub_self, List.drop_eq_getElem_cons hz, List.set_cons_zero, List.append_assoc]
  rfl

theorem ownP_other {w : World} {base top : Nat} {v : Value} {ps : List (List Stm)} (h : OwnP w base top v ps) {a : Addr} (ha : a.block < base ∨ top ≤ a.block) (u : Value) : OwnP (w.setCell a u) base top v ps := by
  obtain ⟨us, ho, ht, hu⟩ := h
  refine ⟨us, ownsRow_setCell_other ho (fun e => ?_) u, ht, fun j x p h1 h2 => ⟨ownsRow_setCell_other (hu j x p h1 h2).1 (fun e => ?_) u, (hu j x p h1 h2).2⟩⟩
  · have h1 := ht _ e
    have h2 := (ho.lt _ e).1
    omega
  · have h3 := (hu j x p h1 h2).2 _ e
    have h4 := ((hu j x p h1 h2).1.lt _ e).1
    omega

theorem ownP_mono {w : World} {base top base' top' : Nat} {v : Value} {ps : List (List Stm)} (h : OwnP w base top v ps) (hb : base' ≤ base) (ht' : top ≤ top') : OwnP w base' top' v ps := by
  obtain ⟨us, ho, ht, hu⟩ := h
  exact ⟨us, own_mono ho hb, fun k hk => Nat.lt_of_lt_of_le (ht k hk) ht', fun j x p h1 h2 => ⟨own_mono (hu j x p h1 h2).1 hb, fun k hk => Nat.lt_of_lt_of_le ((hu j x p h1 h2).2 k hk) ht'⟩⟩

theorem ownP_slice {w : World} {base top : Nat} {v : Value} {ps : List (List Stm)} (h : OwnP w base top v ps) : ∃ a m c, v = .slice a m c := by
  obtain ⟨us, ho, _⟩ := h
  exact own_slice ho

theorem eqProcS (ps : List (List Stm)) (v u : Value) (w : World) (hl : ps.length ≤ maxLen) (hp : ∀ p ∈ ps, p.length ≤ maxLen) (hv : ReadsP w v ps) (hu : ReadsP w u ps) :
    Calls Tryz.prog 113 #[v, u] w fun e w' => e = .returned (.bool true) ∧ Below w.heap.size w w' := by
  unfold maxLen at hl
  obtain ⟨ao, cap, rfl, hc⟩ := hv
  obtain ⟨bo, cap', rfl, hd⟩ := hu
  go_enter Tryz.func113, Tryz.ntmps113
  go_wp2
  go_loopw [5] (fun i wr => ∃ k : Nat, k ≤ ps.length ∧ i = .int .i64 k ∧ Below w.heap.size w wr) (fun i _ => ps.length - (intOf i).toNat)
  case atStart => exact ⟨0, Nat.zero_le _, rfl, Below.refl _ _⟩
  case round =>
    obtain ⟨k, hk, rfl, hb⟩ := hrel
    by_cases hlt : k < ps.length
    · obtain ⟨g, off, x, rfl, p0, r0⟩ := hc k ps[k] (by simp [hlt])
      obtain ⟨g', off', y, rfl, q0, r1⟩ := hd k ps[k] (by simp [hlt])
      have pl := hp ps[k] (List.getElem_mem hlt)
      have p0 := cell_regrown ((hb.cell (World.block_lt_of_cell? w _ p0)).trans p0)
      have q0 := cell_regrown ((hb.cell (World.block_lt_of_cell? w _ q0)).trans q0)
      have r0 := reads3_below r0 hb
      have r1 := reads3_below r1 hb
      obtain ⟨xa, xn, xc, rfl⟩ := reads3_slice r0
      obtain ⟨ya, yn, yc, rfl⟩ := reads3_slice r1
      have hlt' : (k : Int) < (ps.length : Int) := by omega
      have he : ∀ d os, _ := fun d os => Calls.regrown_of (w := wr) (d := d) (os := os) (eqProc ps[k] (.slice xa xn xc) (.slice ya yn yc) _ pl (reads3_below r0 (below_regrown wr d os)) (reads3_below r1 (below_regrown wr d os)))
      clear hc hd
      generalize ps[k] = s at *
      go_wp2
      refine wp_region_quiet_below (by kernel_rfl) (by kernel_rfl) ?_
      repeat (go_big_quiet_step (exact he _ _))
      refine wpQuiet_nil ?_
      intro _ hw'
      obtain ⟨⟨dq, osq⟩, hw''⟩ := hw'
      subst hw''
      have hb' := hb.trans ((below_regrown wr dq osq).mono hb.size)
      go_wp2
      go_roundw
      case rel => exact ⟨k + 1, by omega, by go_num, hb'⟩
      case measure => simp [intOf]; omega
    · go_wp2
      go_ret
      exact ⟨rfl, hb⟩

theorem eqProgram (ps : List (List Stm)) (v u : Value) (w : World) (hl : ps.length ≤ maxLen) (hp : ∀ p ∈ ps, p.length ≤ maxLen) (hv : ReadsP w v ps) (hu : ReadsP w u ps) :
    Calls Tryz.prog 98 #[.agg #[v], .agg #[u]] w fun e w' => e = .returned (.bool true) ∧ Below w.heap.size w w' := by
  have hb0 : Below w.heap.size w ((w.alloc (.cells #[v] 91)).alloc (.cells #[u] 91)) := by go_grown
  go_enter Tryz.func98, Tryz.ntmps98
  go_wp2_with fail
  go_at_call 113
  refine (eqProcS ps v u _ hl hp (readsP_below hv hb0) (readsP_below hu hb0)).mono ?_
  rintro e w1 ⟨rfl, b1⟩
  go_wp2
  go_ret
  exact ⟨rfl, hb0.trans (b1.mono hb0.size)⟩

end Go.Proofs.YtggglcjdnllnjaaGreatDoor
