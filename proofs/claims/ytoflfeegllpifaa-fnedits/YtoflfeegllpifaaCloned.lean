/-
  impl.clonedProcs: rows of its own, apart.
-/
import Derived.Test.YtoflfeegllpifaaSpl2
namespace Go.Proofs.Ytoflfeegllpifaa
open Go.RowKit
set_option linter.unusedVariables false
set_option linter.unusedSimpArgs false
set_option maxHeartbeats 4000000
set_option maxRecDepth 20000

theorem readsP_vals {w : World} {v : Value} {ps : List (List Stm)} (h : ReadsP w v ps) : ∃ us : List Value, us.length = ps.length ∧ Reads w v us ∧ (∀ u ∈ us, u.oneCell' = true) ∧ ∀ (j : Nat) (u : Value) (p : List Stm), us[j]? = some u → ps[j]? = some p → Reads3 w u p := by
  obtain ⟨ao, cap, rfl, hc⟩ := h
  have each : ∀ i, i < ps.length → ∃ u : Value, (∃ g off, ao = some ⟨g, off, none⟩ ∧ w.cell? ⟨g, off + i, none⟩ = some u) ∧ (∃ a m c, u = .slice a m c) ∧ ∀ p, ps[i]? = some p → Reads3 w u p := fun i hi => by
    obtain ⟨g, off, u, e, hcell, hr⟩ := hc i ps[i] (by simp [hi])
    refine ⟨u, ⟨g, off, e, hcell⟩, reads3_slice hr, fun p hp => ?_⟩
    rw [List.getElem?_eq_getElem hi] at hp
    cases hp
    exact hr
  obtain ⟨us, hl, hq⟩ := list_of ps.length each
  refine ⟨us, hl, ⟨ao, cap, by rw [hl], fun j x hx => ?_⟩, fun u hu => ?_, fun j u p h1 h2 => (hq j u h1).2.2 p h2⟩
  · exact (hq j x hx).1
  · obtain ⟨j, hj⟩ := List.getElem?_of_mem hu
    obtain ⟨a, m, c, rfl⟩ := (hq j u hj).2.1
    rfl

theorem kind13 {w : World} {b b' : Nat} {e e' : TypeId} {s s' n n' : Nat} {v v' : Value} {xs xs' : List Value} (h : w.ownsRow b e s v n xs) (h' : w.ownsRow b' e' s' v' n' xs') (hne : e ≠ e') : ∀ k, v.ownBlock = some k → v'.ownBlock ≠ some k := by
  intro k hk hk'
  rcases h.2 with ⟨rfl, _⟩ | ⟨g, cap, cur, rfl, _, hg, _⟩
  · cases hk
  · rcases h'.2 with ⟨rfl, _⟩ | ⟨g', cap', cur', rfl, _, hg', _⟩
    · cases hk'
    · obtain rfl : g = k := Option.some.inj hk
      obtain rfl : g' = g := Option.some.inj hk'
      rw [hg] at hg'
      simp at hg'
      exact hne hg'.2

theorem own_put13 {w : World} {base : Nat} {e : TypeId} {g n cap : Nat} {xs : List Value} (h : w.ownsRow base e 1 (.slice (some ⟨g, 0, none⟩) n cap) n xs) (j : Nat) (u : Value) : (w.setCell ⟨g, j, none⟩ u).ownsRow base e 1 (.slice (some ⟨g, 0, none⟩) n cap) n (xs.set j u) := (h.stored j u).1

theorem set_mid13 (vs us : List Value) (u : Value) (j : Nat) (hj : vs.length = j) (hl : j < us.length) : (vs ++ us.drop j).set j u = (vs ++ [u]) ++ us.drop (j + 1) := by
  subst hj
  rw [List.set_append_right _ _ (Nat.le_refl _), Nat.sub_self, List.drop_eq_getElem_cons hl, List.set_cons_zero, List.append_assoc]
  rfl

theorem clonedProcs (ps : List (List Stm)) (v : Value) (w : World) (h0 : 0 < ps.length) (hl : ps.length ≤ 100) (hp : ∀ p ∈ ps, 0 < p.length ∧ p.length ≤ 100) (hv : ReadsP w v ps) :
    Calls Try.prog 55 #[v] w fun e w' => ∃ g cap us, e = .returned (.slice (some ⟨g, 0, none⟩) ps.length cap) ∧ Own13 w' w.heap.size (.slice (some ⟨g, 0, none⟩) ps.length cap) us ps ∧ Below w.heap.size w w' := by
  obtain ⟨us, hul, hR, h1, hr⟩ := readsP_vals hv
  have hcl := cloneProcs us v w (by omega) (by omega) hR h1
  rw [hul] at hcl
  obtain ⟨ao, vcap, rfl, hcv⟩ := id hR
  rw [hul]
  go_enter Try.func55, Try.ntmps55
  rw [hul] at hcl
  go_wp2_with fail
  go_at_call 59
  refine hcl.mono ?_
  rintro e w1 ⟨G, cap, rfl, own1, b1⟩
  have hGB : w.heap.size ≤ G := (own1.lt G rfl).1
  clear hcl
  go_wp2_with fail
  go_loopw [10] (fun i wr => ∃ (j : Nat) (vs : List Value), j ≤ ps.length ∧ vs.length = j ∧ i = .int .i64 j ∧ wr.ownsRow w.heap.size 34 1 (.slice (some ⟨G, 0, none⟩) ps.length cap) ps.length (vs ++ us.drop j) ∧ Below w.heap.size w wr ∧
      (∀ (i : Nat) (u : Value) (p : List Stm), vs[i]? = some u → ps[i]? = some p → wr.ownsRow w.heap.size 37 3 u p.length (cells3 p)) ∧ Apart13 vs ∧ (∀ u ∈ vs, ∀ k, u.ownBlock = some k → k < wr.heap.size)) (fun i _ => ps.length - (intOf i).toNat)
  case atStart => exact ⟨0, [], Nat.zero_le _, rfl, rfl, by simpa using own1, b1, fun i u p h => by simp at h, fun i j a b k _ h => by simp at h, by simp⟩
  case round =>
    obtain ⟨j, vs, hj, hvs, rfl, own, hb, hin, hap, hlt0⟩ := hrel
    by_cases hlt : j < ps.length
    · have hlt' : (j : Int) < (ps.length : Int) := by omega
      have hju : j < us.length := by omega
      have huj : us[j]? = some us[j] := by simp
      have hpj : ps[j]? = some ps[j] := by simp
      obtain ⟨g0, off0, e0, q0⟩ := hcv j us[j] huj
      subst e0
      have rj := hr j us[j] ps[j] huj hpj
      obtain ⟨hp0, hp1⟩ := hp ps[j] (List.getElem_mem hlt)
      have q1 := (hb.cell (World.block_lt_of_cell? w _ q0)).trans q0
      obtain ⟨ua, um, uc, hus⟩ := reads3_slice rj
      rw [hus] at q1 rj
      have bA : Below wr.heap.size wr (wr.alloc (.cells #[.slice ua um uc] 34)) := by go_grown
      have hcs := cloneStmts ps[j] (.slice ua um uc) (wr.alloc (.cells #[.slice ua um uc] 34)) hp0 hp1 (reads3_below (reads3_below rj hb) bA)
      have hset := set_mid13 vs us
      have HIN : Hid _ := hin
      have HPJ : Hid _ := hpj
      have HAP : Hid _ := hap
      have HLT : Hid _ := hlt0
      clear hin hpj hap hlt0 rj huj hus q0 hcv hr hR h1
      generalize ps[j] = p at *
      go_wp2_with fail
      go_at_call 60
      refine hcs.mono ?_
      rintro e w2 ⟨q, c, rfl, ow2, b2⟩
      have zA : (wr.alloc (.cells #[.slice ua um uc] 34)).heap.size = wr.heap.size + 1 := by simp
      rw [zA] at ow2
      have bW : Below wr.heap.size wr w2 := bA.trans (b2.mono (by omega))
      have own2 := own_kept own bW
      have hq : wr.heap.size + 1 ≤ q := (ow2.lt q rfl).1
      have hql : q < w2.heap.size := (ow2.lt q rfl).2
      have hzw := hb.size
      have hcell := own_cell own2 j (by omega)
      obtain ⟨y0, c0⟩ := hcell
      have f0 := own2.frozenAt j
      have own3 := own_put13 own2 j (.slice (some ⟨q, 0, none⟩) p.length c)
      rw [hset _ j hvs hju] at own3
      have HO3 : Hid ((w2.setCell ⟨G, j, none⟩ (.slice (some ⟨q, 0, none⟩) p.length c)).ownsRow w.heap.size 34 1 (.slice (some ⟨G, 0, none⟩) ps.length cap) ps.length ((vs ++ [.slice (some ⟨q, 0, none⟩) p.length c]) ++ us.drop (j + 1))) := own3
      have HB3 : Hid (Below w.heap.size w (w2.setCell ⟨G, j, none⟩ (.slice (some ⟨q, 0, none⟩) p.length c))) := (hb.trans (bW.mono hzw)).setCell hGB _
      have keep : ∀ {u : Value} {r : List Stm}, w2.ownsRow w.heap.size 37 3 u r.length (cells3 r) → (w2.setCell ⟨G, j, none⟩ (.slice (some ⟨q, 0, none⟩) p.length c)).ownsRow w.heap.size 37 3 u r.length (cells3 r) := fun {u r} hu =>
        own_grown hu (grown_setRow13 _ _ _ _) (fun k hk e => kind13 hu own2 (by decide) k hk e)
      have HI3 : Hid (∀ (i : Nat) (u : Value) (r : List Stm), (vs ++ [Value.slice (some ⟨q, 0, none⟩) p.length c])[i]? = some u → ps[i]? = some r → (w2.setCell ⟨G, j, none⟩ (.slice (some ⟨q, 0, none⟩) p.length c)).ownsRow w.heap.size 37 3 u r.length (cells3 r)) := by
        intro i u r h1 h2
        by_cases hi : i < vs.length
        · rw [List.getElem?_append_left hi] at h1
          exact keep (own_kept (HIN.out i u r h1 h2) bW)
        · have hi' : i = j := by
            have := (List.getElem?_eq_some_iff.1 h1).1
            simp at this
            omega
          subst hi'
          rw [HPJ.out] at h2
          simp [← hvs] at h1
          obtain rfl := Option.some.inj h2
          subst h1
          exact keep (own_mono ow2 (by omega))
      have HA3 : Hid (Apart13 (vs ++ [Value.slice (some ⟨q, 0, none⟩) p.length c])) := by
        intro i i' a b k hne ha hb' hk hk'
        have sp : ∀ {i : Nat} {a : Value}, (vs ++ [Value.slice (some ⟨q, 0, none⟩) p.length c])[i]? = some a → (i < vs.length ∧ vs[i]? = some a) ∨ (i = vs.length ∧ a = .slice (some ⟨q, 0, none⟩) p.length c) := by
          intro i a h
          by_cases hi : i < vs.length
          · rw [List.getElem?_append_left hi] at h
            exact .inl ⟨hi, h⟩
          · have h9 := (List.getElem?_eq_some_iff.1 h).1
            simp at h9
            have hi' : i = vs.length := by omega
            subst hi'
            simp at h
            exact .inr ⟨rfl, h.symm⟩
        rcases sp ha with ⟨_, h1⟩ | ⟨e1, rfl⟩
        · rcases sp hb' with ⟨_, h2⟩ | ⟨e2, rfl⟩
          · exact HAP.out i i' a b k hne h1 h2 hk hk'
          · have h3 := HLT.out a (List.mem_of_getElem? h1) k hk
            have h4 : q = k := Option.some.inj hk'
            omega
        · rcases sp hb' with ⟨_, h2⟩ | ⟨e2, rfl⟩
          · have h3 := HLT.out b (List.mem_of_getElem? h2) k hk'
            have h4 : q = k := Option.some.inj hk
            omega
          · omega
      have HL3 : Hid (∀ u ∈ vs ++ [Value.slice (some ⟨q, 0, none⟩) p.length c], ∀ k, u.ownBlock = some k → k < (w2.setCell ⟨G, j, none⟩ (.slice (some ⟨q, 0, none⟩) p.length c)).heap.size) := by
        intro u hu k hk
        have hsz : (w2.setCell ⟨G, j, none⟩ (.slice (some ⟨q, 0, none⟩) p.length c)).heap.size = w2.heap.size := by simp [World.setCell]
        rw [hsz]
        rcases List.mem_append.1 hu with h | h
        · have := HLT.out u h k hk
          have := bW.size
          omega
        · rw [List.mem_singleton.1 h] at hk
          have h4 : q = k := Option.some.inj hk
          omega
      clear hset hcs own3 keep
      go_wp2
      go_roundw
      case rel => exact ⟨j + 1, vs ++ [.slice (some ⟨q, 0, none⟩) p.length c], by omega, by simp [hvs], by go_num, HO3.out, HB3.out, HI3.out, HA3.out, HL3.out⟩
      case measure => simp [intOf]; omega
    · have hjj : j = ps.length := by omega
      rw [List.drop_of_length_le (by omega), List.append_nil] at own
      have HF : Hid (Own13 wr w.heap.size (.slice (some ⟨G, 0, none⟩) ps.length cap) vs ps) := ⟨own, hin, hap⟩
      clear hin hap hlt0 own
      subst hjj
      go_wp2
      go_ret
      exact ⟨G, cap, vs, rfl, HF.out, hb⟩

end Go.Proofs.Ytoflfeegllpifaa
