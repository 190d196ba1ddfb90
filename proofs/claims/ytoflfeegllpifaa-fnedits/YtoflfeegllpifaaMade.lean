/-
  impl.madeBy.
-/
import Derived.Test.YtoflfeegllpifaaG11EditOk
import Derived.Test.YtoflfeegllpifaaRegionLast
namespace Go.Proofs.Ytoflfeegllpifaa
open Go.RowKit
set_option linter.unusedVariables false
set_option linter.unusedSimpArgs false
set_option maxHeartbeats 4000000
set_option maxRecDepth 20000

theorem _root_.Go.World.ownsRow.mono13 {w : World} {base : Nat} {e : TypeId} {s : Nat} {v : Value} {n : Nat} {xs : List Value} (h : w.ownsRow base e s v n xs) : w.ownsRow base e s v n xs := h

/-- One of the rows is spliced, then stored. -/
theorem Own13.spl {w w4 : World} {base G cap g m c i q c' : Nat} {us : List Value} {ps : List (List Stm)} {R : List Stm} (h : Own13 w base (.slice (some ⟨G, 0, none⟩) ps.length cap) us ps) (hi : i < ps.length)
    (hui : us[i]? = some (.slice (some ⟨g, 0, none⟩) m c)) (hg : w.grownBy w4 (some g)) (ho : w4.ownsRow base 37 3 (.slice (some ⟨q, 0, none⟩) R.length c') R.length (cells3 R)) (hq : q = g ∨ w.heap.size ≤ q) :
    Own13 (w4.setCell ⟨G, i, none⟩ (.slice (some ⟨q, 0, none⟩) R.length c')) base (.slice (some ⟨G, 0, none⟩) ps.length cap) (us.set i (.slice (some ⟨q, 0, none⟩) R.length c')) (ps.set i R) := by
  have hul := h.len
  obtain ⟨p, hp⟩ : ∃ p, ps[i]? = some p := ⟨ps[i], by simp [hi]⟩
  have hoi := h.each i _ p hui hp
  have hGg : G ≠ g := fun e => kind13 hoi h.row (by decide) g rfl (by rw [e]; rfl)
  have hrow4 : w4.ownsRow base 34 1 (.slice (some ⟨G, 0, none⟩) ps.length cap) ps.length us := own_grown h.row hg (fun k hk e => hGg ((Option.some.inj hk).trans (Option.some.inj e).symm))
  have keep : ∀ {u : Value} {r : List Stm}, w4.ownsRow base 37 3 u r.length (cells3 r) → (w4.setCell ⟨G, i, none⟩ (.slice (some ⟨q, 0, none⟩) R.length c')).ownsRow base 37 3 u r.length (cells3 r) := fun {u r} hu =>
    own_grown hu (grown_setRow13 _ _ _ _) (fun k hk e => kind13 hu hrow4 (by decide) k hk e)
  refine ⟨by rw [List.length_set]; exact own_put13 hrow4 i _, fun j u r h1 h2 => ?_, fun a b x y k hne hx hy hk hk' => ?_⟩
  · by_cases e : i = j
    · subst e
      rw [List.getElem?_set_self (by omega)] at h1
      rw [List.getElem?_set_self hi] at h2
      cases h1; cases h2
      exact keep ho
    · rw [List.getElem?_set_ne e] at h1 h2
      have h3 := h.each j u r h1 h2
      exact keep (own_grown h3 hg (fun k hk e' => h.ap j i u _ k (fun e2 => e e2.symm) h1 hui hk (by rw [← e']; rfl)))
  · have old : ∀ {a : Nat} {x : Value}, a ≠ i → (us.set i (.slice (some ⟨q, 0, none⟩) R.length c'))[a]? = some x → us[a]? = some x := fun {a x} hne hx => by rwa [List.getElem?_set_ne (Ne.symm hne)] at hx
    have new : ∀ {x : Value}, (us.set i (.slice (some ⟨q, 0, none⟩) R.length c'))[i]? = some x → x = .slice (some ⟨q, 0, none⟩) R.length c' := fun {x} hx => by
      rw [List.getElem?_set_self (by omega)] at hx
      exact (Option.some.inj hx).symm
    have cross : ∀ {a : Nat} {x : Value}, a ≠ i → us[a]? = some x → x.ownBlock ≠ some q := fun {a x} hne hx hk => by
      have hal : a < ps.length := by have := (List.getElem?_eq_some_iff.1 hx).1; omega
      have h5 := (h.each a x ps[a] hx (by simp [hal])).lt q hk
      rcases hq with rfl | hq
      · exact h.ap a i x _ q hne hx hui hk rfl
      · omega
    by_cases e1 : a = i
    · subst e1
      have h6 := new hx
      subst h6
      have h7 := old (Ne.symm hne) hy
      rw [show k = q from (Option.some.inj hk).symm] at hk'
      exact cross (Ne.symm hne) h7 hk'
    · by_cases e2 : b = i
      · subst e2
        have h6 := new hy
        subst h6
        rw [show k = q from (Option.some.inj hk').symm] at hk
        exact cross e1 (old e1 hx) hk
      · exact h.ap a b x y k hne (old e1 hx) (old e2 hy) hk hk'

theorem progs13 {ps : List (List Stm)} (h : programOk ps = true) : 1 ≤ ps.length ∧ ps.length ≤ 4 ∧ ∀ p ∈ ps, procOk p = true := by
  unfold programOk at h
  simp only [Bool.and_eq_true, decide_eq_true_eq] at h
  obtain ⟨⟨h1, h2⟩, h3⟩ := h
  refine ⟨h1, h2, fun p hp => ?_⟩
  have := List.all_eq_true.1 h3 p hp
  unfold partOk at this
  simp only [Bool.and_eq_true] at this
  exact this.1

theorem stm_y {s : Stm} (h : stmtOk s.k s.x s.y = true) : 0 ≤ s.y ∧ s.y ≤ 11 := by
  obtain ⟨k, x, y⟩ := s
  unfold stmtOk inB at h
  simp only at h ⊢
  repeat' split at h
  all_goals simp at h
  all_goals omega

theorem procs13 {p : List Stm} (h : procOk p = true) : 0 < p.length ∧ p.length ≤ 12 ∧ ∀ s ∈ p, 0 ≤ s.y ∧ s.y ≤ 11 := by
  have h0 := h
  unfold procOk at h0
  simp only [Bool.and_eq_true, decide_eq_true_eq] at h0
  obtain ⟨⟨⟨h1, h2⟩, _⟩, _⟩ := h0
  exact ⟨h1, h2, fun s hs => stm_y (procOk_stm h hs)⟩

theorem madeBy (ps qs : List (List Stm)) (e : Edt) (v : Value) (w : World) (hok : programOk ps = true) (he : editB ps e = true) (hm : made13 ps e.k e.pr e.a e.s = some qs) (hv : ReadsP w v ps) :
    Calls Try.prog 46 #[.agg #[v], edV e] w fun r w' => ∃ u us, r = .returned (.agg #[u]) ∧ Own13 w' w.heap.size u us qs ∧ Below w.heap.size w w' := by
  obtain ⟨hl1, hl4, hpo⟩ := progs13 hok
  obtain ⟨k, pr, a, ⟨sk, sx, sy⟩⟩ := e
  obtain ⟨ao, vcap, rfl, hcv⟩ := id hv
  clear hcv
  simp only at hm
  unfold edV
  simp only
  obtain ⟨W0, hW0⟩ : ∃ W0, ((w.alloc (.cells #[.slice ao ps.length vcap] 26)).alloc (.cells #[.int .i64 k, .int .i64 pr, .int .i64 a, .int .i64 sk, .int .i64 sx, .int .i64 sy] 47)).alloc (.cells #[.slice none 0 0] 26) = W0 := ⟨_, rfl⟩
  have b0 : Below w.heap.size w W0 := by rw [← hW0]; go_grown
  have s0 : W0.heap.size = w.heap.size + 3 := by rw [← hW0]; simp
  have H0 : W0.heap[w.heap.size]? = some (.cells #[.slice ao ps.length vcap] 26 (0, 0)) := by rw [← hW0, old_block (by simp; omega), old_block (by simp)]; exact heap_alloc_new w _
  have H1 : W0.heap[w.heap.size + 1]? = some (.cells #[.int .i64 k, .int .i64 pr, .int .i64 a, .int .i64 sk, .int .i64 sx, .int .i64 sy] 47 (0, 0)) := by
    rw [← hW0, old_block (by simp)]
    have := heap_alloc_new (w.alloc (.cells #[.slice ao ps.length vcap] 26)) (.cells #[.int .i64 k, .int .i64 pr, .int .i64 a, .int .i64 sk, .int .i64 sx, .int .i64 sy] 47)
    simpa using this
  have H2 : W0.heap[w.heap.size + 1 + 1]? = some (.cells #[.slice none 0 0] 26 (0, 0)) := by
    rw [← hW0]
    have := heap_alloc_new ((w.alloc (.cells #[.slice ao ps.length vcap] 26)).alloc (.cells #[.int .i64 k, .int .i64 pr, .int .i64 a, .int .i64 sk, .int .i64 sx, .int .i64 sy] 47)) (.cells #[.slice none 0 0] 26)
    simpa using this
  have c0 := (one_cell H0).1
  have hclo := clonedProcs ps (.slice ao ps.length vcap) W0 (by omega) (by omega) (fun p hp => by obtain ⟨h1, h2, _⟩ := procs13 (hpo p hp); omega) (readsP_below hv b0)
  go_enter Try.func46, Try.ntmps46
  go_wp2_with fail
  go_at_call 55
  refine hclo.mono ?_
  rintro r w1 ⟨G, cap, us, rfl, OW, b1⟩
  have z1 := b1.size
  have B1 : Below w.heap.size w w1 := b0.trans (b1.mono b0.size)
  have E1 := (b1.block (w.heap.size + 1) (by omega)).trans H1
  have R1 := (b1.block (w.heap.size + 1 + 1) (by omega)).trans H2
  rw [s0] at OW
  obtain ⟨k0, k1, k2⟩ := edit_cells0 E1
  obtain ⟨k3, k4, k5⟩ := edit_cells E1
  have HB1 : Hid _ := B1
  have HE1 : Hid (w1.heap[w.heap.size + 1]? = some (.cells #[.int .i64 k, .int .i64 pr, .int .i64 a, .int .i64 sk, .int .i64 sx, .int .i64 sy] 47 (0, 0))) := E1
  have HR1 : Hid (w1.heap[w.heap.size + 1 + 1]? = some (.cells #[.slice none 0 0] 26 (0, 0))) := R1
  have HOW : Hid (Own13 w1 (w.heap.size + 3) (.slice (some ⟨G, 0, none⟩) ps.length cap) us ps) := OW
  have HZ : Hid (w.heap.size + 3 ≤ w1.heap.size) := by rw [← s0]; exact z1
  have hEl : w.heap.size + 1 < w1.heap.size := by omega
  have hGl : w.heap.size + 3 ≤ G ∧ G < w1.heap.size := OW.row.lt G rfl
  obtain ⟨hGa, hGb⟩ := hGl
  -- what is told where all is done
  have hend : ∀ (w5 : World) (u : Value) (vs : List Value), Below (w.heap.size + 3) w1 w5 → Own13 w5 (w.heap.size + 3) u vs qs → Own13 (w5.setCell ⟨w.heap.size + 1 + 1, 0, none⟩ u) w.heap.size u vs qs ∧ Below w.heap.size w (w5.setCell ⟨w.heap.size + 1 + 1, 0, none⟩ u) := fun w5 u vs hb ho => by
    refine ⟨(ho.grown (grown_setRow13 _ _ _ _) (fun k hk => .inl (by have := Option.some.inj hk; omega))).mono (by omega), ?_⟩
    exact (HB1.out.trans (hb.mono (by omega))).setCell (by simp; omega) _
  have hres : ∀ (w5 : World) (u : Value), Below (w.heap.size + 3) w1 w5 → w5.cell? ⟨w.heap.size + 1 + 1, 0, none⟩ = some (.slice none 0 0) ∧ w5.frozen? ⟨w.heap.size + 1 + 1, 0, none⟩ = false ∧ (w5.setCell ⟨w.heap.size + 1 + 1, 0, none⟩ u).cell? ⟨w.heap.size + 1 + 1, 0, none⟩ = some u := fun w5 u hb => by
    have h1 := (hb.block (w.heap.size + 1 + 1) (by omega)).trans HR1.out
    exact ⟨(one_cell h1).1, (one_cell h1).2, (one_cell (one_set h1 u)).1⟩
  have HEND : Hid _ := hend
  have HRES : Hid _ := hres
  clear hend hres
  have hplace : ∀ (hk : k ≠ 4), wiB pr ps.length = true ∧ wiB a (ps.getD pr.toNat []).length = true := by
    intro hk
    unfold made13 at hm
    rw [if_neg hk] at hm
    by_cases h : (wiB pr ps.length && wiB a (ps.getD pr.toNat []).length) = true
    · simpa using h
    · rw [if_neg h] at hm
      cases hm
  by_cases hk4 : k = 4
  · subst hk4
    unfold made13 at hm
    simp only [if_true] at hm
    split at hm
    · rename_i hz
      obtain ⟨rfl, rfl, hz3⟩ := hz
      obtain rfl := Option.some.inj hm
      obtain ⟨i0, hi0, hz0, hz1, hz2⟩ := info_parts infoProc
      have hul := OW.len
      obtain ⟨W2, hW2⟩ : ∃ W2, (w1.alloc (.cells #[.int .i64 9, .int .i64 0, .int .i64 0] 37)).alloc (.cells #[.slice (some ⟨w1.heap.size, 0, none⟩) 1 1] 34) = W2 := ⟨_, rfl⟩
      have b2 : Below w1.heap.size w1 W2 := by rw [← hW2]; go_grown
      have z2 : W2.heap.size = w1.heap.size + 2 := by rw [← hW2]; simp
      have L1 : W2.heap[w1.heap.size]? = some (.cells #[.int .i64 9, .int .i64 0, .int .i64 0] 37 (0, 0)) := by rw [← hW2, old_block (by simp)]; exact heap_alloc_new w1 _
      have L2 : W2.heap[w1.heap.size + 1]? = some (.cells #[.slice (some ⟨w1.heap.size, 0, none⟩) 1 1] 34 (0, 0)) := by
        rw [← hW2]
        have := heap_alloc_new (w1.alloc (.cells #[.int .i64 9, .int .i64 0, .int .i64 0] 37)) (.cells #[.slice (some ⟨w1.heap.size, 0, none⟩) 1 1] 34)
        simpa using this
      have OW2 := OW.kept b2
      have hrow2 := OW2.row
      have hnew : W2.ownsRow (w.heap.size + 3) 37 3 (.slice (some ⟨w1.heap.size, 0, none⟩) 1 1) 1 (cells3 [⟨9, 0, 0⟩]) := ⟨rfl, .inr ⟨w1.heap.size, 1, _, rfl, HZ.out, L1, Nat.le_refl _, by unfold maxLen; omega, rfl, rfl⟩⟩
      have hcs : ∀ (j : Nat) (u : Value), [Value.slice (some ⟨w1.heap.size, 0, none⟩) 1 1][j]? = some u → W2.cell? ((⟨w1.heap.size + 1, 0, none⟩ : Addr).add j) = some u := fun j u hj => by
        rw [Addr.add_lit, Nat.zero_add, cell_of_row W2 _ j _ _ (0, 0) L2, ← hj]
        simp
      have HOW2 : Hid _ := OW2
      have HNEW : Hid _ := hnew
      have HB2 : Hid _ := b2
      have hz2l : w.heap.size + 3 ≤ W2.heap.size := by have := HZ.out; omega
      have HU : Hid (∀ u ∈ us, ∀ k, u.ownBlock = some k → k < w1.heap.size) := fun u hu k hk => by
        obtain ⟨j, hj⟩ := List.getElem?_of_mem hu
        have hjl := (List.getElem?_eq_some_iff.1 hj).1
        exact ((OW.each j u ps[j] hj (by simp)).lt k hk).2
      clear OW OW2 hnew b2 L1 L2 B1 E1 R1 b1 H0 H1 H2 b0 hW0 hclo he c0 hplace hm hz3
      go_wp2_with (first
        | (at_builtin; refine wpList_append_own _ rfl (.tmp 61) (.tmp 65) 24 rfl (w.heap.size + 3) 34 i0 (.agg #[.slice none 0 0]) 1 24 Try.underlying24 hi0 hz0 hz1 hz2 rfl (by decide) _ ps.length us rfl hrow2 ⟨w1.heap.size + 1, 0, none⟩ 1 1 [.slice (some ⟨w1.heap.size, 0, none⟩) 1 1] rfl rfl hcs (by simp [Value.oneCell']) (by unfold maxLen; omega) (by omega) hz2l ?_; intro v3 w3 own3 grow3 _; refine stop13 ?_)
        | go_in)
      unfold Stop13
      have kn : ∀ {u : Value} {r : List Stm}, W2.ownsRow (w.heap.size + 3) 37 3 u r.length (cells3 r) → w3.ownsRow (w.heap.size + 3) 37 3 u r.length (cells3 r) := fun {u r} hu => own_grown hu grow3 (fun k hk e => kind13 hu hrow2 (by decide) k hk e)
      have HO5 : Hid (Own13 w3 (w.heap.size + 3) v3 (us ++ [.slice (some ⟨w1.heap.size, 0, none⟩) 1 1]) (ps ++ [[⟨9, 0, 0⟩]])) := by
        have hul : us.length = ps.length := HOW2.out.len
        refine ⟨by simpa using own3, fun j u r h1 h2 => ?_, fun a b x y k hne hx hy hk hk' => ?_⟩
        · by_cases hj : j < us.length
          · rw [List.getElem?_append_left hj] at h1
            rw [List.getElem?_append_left (by omega)] at h2
            exact kn (HOW2.out.each j u r h1 h2)
          · have h9 := (List.getElem?_eq_some_iff.1 h1).1
            simp at h9
            have hj' : j = us.length := by omega
            subst hj'
            rw [hul] at h2
            simp at h1 h2
            subst h1 h2
            exact kn HNEW.out
        · have sp : ∀ {i : Nat} {a : Value}, (us ++ [Value.slice (some ⟨w1.heap.size, 0, none⟩) 1 1])[i]? = some a → (i < us.length ∧ us[i]? = some a) ∨ (i = us.length ∧ a = .slice (some ⟨w1.heap.size, 0, none⟩) 1 1) := by
            intro i a h
            by_cases hi : i < us.length
            · rw [List.getElem?_append_left hi] at h
              exact .inl ⟨hi, h⟩
            · have h9 := (List.getElem?_eq_some_iff.1 h).1
              simp at h9
              have hi' : i = us.length := by omega
              subst hi'
              simp at h
              exact .inr ⟨rfl, h.symm⟩
          rcases sp hx with ⟨_, h1⟩ | ⟨e1, rfl⟩
          · rcases sp hy with ⟨_, h2⟩ | ⟨e2, rfl⟩
            · exact HOW2.out.ap a b x y k hne h1 h2 hk hk'
            · have h3 := HU.out x (List.mem_of_getElem? h1) k hk
              have h4 : w1.heap.size = k := Option.some.inj hk'
              omega
          · rcases sp hy with ⟨_, h2⟩ | ⟨e2, rfl⟩
            · have h3 := HU.out y (List.mem_of_getElem? h2) k hk'
              have h4 : w1.heap.size = k := Option.some.inj hk
              omega
            · omega
      have HB5 : Hid (Below (w.heap.size + 3) w1 w3) := ((HB2.out).mono HZ.out).grown grow3 hz2l (fun q hq => by have : G = q := Option.some.inj hq; omega)
      rcases own3.2 with ⟨_, hn0⟩ | ⟨q, c3, cur, rfl, _⟩
      · omega
      obtain ⟨r1, r2, r3⟩ := HRES.out _ (.slice (some ⟨q, 0, none⟩) (ps.length + 1) c3) HB5.out
      obtain ⟨HE5, HF5⟩ := HEND.out _ _ _ HB5.out HO5.out
      have HX5 : Hid _ := HE5
      have HY5 : Hid _ := HF5
      clear HE5 HF5 own3 grow3 kn hcs
      go_wp2
      refine bodyPost_ret (v := .agg #[.slice (some ⟨q, 0, none⟩) (ps.length + 1) c3]) (by simp [results, Try.results46, go_sem, r3]) rfl ?_
      exact ⟨_, _, rfl, HX5.out, HY5.out⟩
    · cases hm
  obtain ⟨hp1, hp2⟩ := hplace hk4
  obtain ⟨y0, y1⟩ := wiB_true hp1
  obtain ⟨y2, y3⟩ := wiB_true hp2
  obtain ⟨i, rfl⟩ : ∃ i : Nat, pr = i := ⟨pr.toNat, by omega⟩
  obtain ⟨j, rfl⟩ : ∃ j : Nat, a = j := ⟨a.toNat, by omega⟩
  have hi : i < ps.length := by omega
  have hgd : ps.getD i [] = ps[i] := by simp [List.getD, hi]
  simp only [Int.toNat_natCast, hgd] at y3 hm
  unfold made13 at hm
  rw [if_neg hk4] at hm
  simp only [Int.toNat_natCast, hgd] at hp1 hp2 hm
  rw [hp1, hp2] at hm
  simp only [Bool.and_self, if_true] at hm
  obtain ⟨hq0, hq1, hqy⟩ := procs13 (hpo ps[i] (List.getElem_mem hi))
  have hpi : ps[i]? = some ps[i] := by simp [hi]
  have hui : ∃ x, us[i]? = some x := ⟨us[i]'(by rw [OW.len]; exact hi), by simp⟩
  obtain ⟨x, hui⟩ := hui
  have hox := OW.each i x ps[i] hui hpi
  have hcG : w1.cell? ⟨G, i, none⟩ = some x := by rw [OW.row.cellAt i (by omega)]; exact hui
  have hj : j < ps[i].length := by omega
  rcases hox.2 with ⟨_, hn0⟩ | ⟨g, c, cur, rfl, hgb, _⟩
  · omega
  have HOX : Hid _ := hox
  have hgl : g < w1.heap.size := (hox.lt g rfl).2
  have hGg : G ≠ g := fun e => kind13 hox OW.row (by decide) g rfl (by rw [e]; rfl)
  have hfG := OW.row.frozenAt i
  have HUI : Hid _ := hui
  have HPL : Hid (ps[i].length ≤ 100 ∧ j < ps[i].length ∧ (∀ s ∈ ps[i], 0 ≤ s.y ∧ s.y ≤ 11)) := ⟨by omega, hj, hqy⟩
  have HQ : Hid _ := hm
  have hil : (i : Int) < (ps.length : Int) := by omega
  have hE3 : w.heap.size + 1 < w1.heap.size := hEl
  have hng1 : some (w.heap.size + 1) ≠ some g := fun e => by have := Option.some.inj e; omega
  have hng2 : some G ≠ some g := fun e => hGg (Option.some.inj e)
  have HOX2 : Hid (w1.ownsRow (w.heap.size + 3) 37 3 (.slice (some ⟨g, 0, none⟩) ps[i].length c) ps[i].length (cells3 ps[i])) := hox
  clear hox HOX hui hpi hm hqy hp1 hp2 hplace OW B1 E1 R1 b1 z1 H0 H1 H2 b0 hW0 hclo he c0
  generalize hpp : ps[i] = p at *
  have HPP : Hid _ := hpp
  clear hpp
  by_cases hk1 : k = 1
  · subst hk1
    have HQS : Hid (qs = ps.set i (edSet p j ⟨sk, sx, sy⟩)) := by
      have := HQ.out
      simp at this
      exact this.symm
    go_wp2_with fail
    refine wp_region_late (S := fun w' => w'.cell? ⟨w.heap.size + 1, 1, none⟩ = some (.int .i64 (i : Int)) ∧ w'.cell? ⟨w.heap.size + 1, 2, none⟩ = some (.int .i64 (j : Int)) ∧ w'.cell? ⟨w.heap.size + 1, 3, none⟩ = some (.int .i64 sk) ∧ w'.cell? ⟨w.heap.size + 1, 4, none⟩ = some (.int .i64 sx) ∧ w'.cell? ⟨w.heap.size + 1, 5, none⟩ = some (.int .i64 sy) ∧ w'.cell? ⟨G, i, none⟩ = some (.slice (some ⟨g, 0, none⟩) p.length c)) (late := fun j => j == 15) (by kernel_rfl) ⟨k1, k2, k3, k4, k5, hcG⟩ (fun hHeld => ?_)
    refine wpAnyG_take (i := 0) (oi := ?oima0) (v := .slice (some ⟨G, 0, none⟩) ps.length cap) ?hima0 (by kernel_rfl) (by kernel_rfl) (by kernel_rfl) (by kernel_rfl) ?hqma0 ?hyma0 hHeld ?hrma0
    case hima0 =>
      simp only [List.getElem?_toArray, List.getElem?_cons_succ, List.getElem?_cons_zero]
      rfl
    case hqma0 => exact fun _ _ _ h => h
    case hyma0 => exact Or.inl ⟨by kernel_rfl, fun w hSw => by go_simp⟩
    try simp only [Act.put, List.setIfInBounds_toArray, List.set_cons_zero, List.set_cons_succ]
    refine wpAnyG_take (i := 1) (oi := ?oima1) (v := .pointer (some ⟨w.heap.size + 1, 1, none⟩)) ?hima1 (by kernel_rfl) (by kernel_rfl) (by kernel_rfl) (by kernel_rfl) ?hqma1 ?hyma1 hHeld ?hrma1
    case hima1 =>
      simp only [List.getElem?_toArray, List.getElem?_cons_succ, List.getElem?_cons_zero]
      rfl
    case hqma1 => exact fun _ _ _ h => h
    case hyma1 => exact Or.inl ⟨by kernel_rfl, fun w hSw => by go_simp⟩
    try simp only [Act.put, List.setIfInBounds_toArray, List.set_cons_zero, List.set_cons_succ]
    refine wpAnyG_take (i := 2) (oi := ?oima2) (v := .int .i64 (i : Int)) ?hima2 (by kernel_rfl) (by kernel_rfl) (by kernel_rfl) (by kernel_rfl) ?hqma2 ?hyma2 hHeld ?hrma2
    case hima2 =>
      simp only [List.getElem?_toArray, List.getElem?_cons_succ, List.getElem?_cons_zero]
      rfl
    case hqma2 => exact fun _ _ _ h => h
    case hyma2 => exact Or.inl ⟨by kernel_rfl, fun w hSw => by obtain ⟨s1, s2, s3, s4, s5, s6⟩ := hSw; go_simp⟩
    try simp only [Act.put, List.setIfInBounds_toArray, List.set_cons_zero, List.set_cons_succ]
    refine wpAnyG_take (i := 3) (oi := ?oima3) (v := .slice (some ⟨G, 0, none⟩) ps.length cap) ?hima3 (by kernel_rfl) (by kernel_rfl) (by kernel_rfl) (by kernel_rfl) ?hqma3 ?hyma3 hHeld ?hrma3
    case hima3 =>
      simp only [List.getElem?_toArray, List.getElem?_cons_succ, List.getElem?_cons_zero]
      rfl
    case hqma3 => exact fun _ _ _ h => h
    case hyma3 => exact Or.inl ⟨by kernel_rfl, fun w hSw => by go_simp⟩
    try simp only [Act.put, List.setIfInBounds_toArray, List.set_cons_zero, List.set_cons_succ]
    refine wpAnyG_take (i := 4) (oi := ?oima4) (v := .pointer (some ⟨w.heap.size + 1, 1, none⟩)) ?hima4 (by kernel_rfl) (by kernel_rfl) (by kernel_rfl) (by kernel_rfl) ?hqma4 ?hyma4 hHeld ?hrma4
    case hima4 =>
      simp only [List.getElem?_toArray, List.getElem?_cons_succ, List.getElem?_cons_zero]
      rfl
    case hqma4 => exact fun _ _ _ h => h
    case hyma4 => exact Or.inl ⟨by kernel_rfl, fun w hSw => by go_simp⟩
    try simp only [Act.put, List.setIfInBounds_toArray, List.set_cons_zero, List.set_cons_succ]
    refine wpAnyG_take (i := 5) (oi := ?oima5) (v := .int .i64 (i : Int)) ?hima5 (by kernel_rfl) (by kernel_rfl) (by kernel_rfl) (by kernel_rfl) ?hqma5 ?hyma5 hHeld ?hrma5
    case hima5 =>
      simp only [List.getElem?_toArray, List.getElem?_cons_succ, List.getElem?_cons_zero]
      rfl
    case hqma5 => exact fun _ _ _ h => h
    case hyma5 => exact Or.inl ⟨by kernel_rfl, fun w hSw => by obtain ⟨s1, s2, s3, s4, s5, s6⟩ := hSw; go_simp⟩
    try simp only [Act.put, List.setIfInBounds_toArray, List.set_cons_zero, List.set_cons_succ]
    refine wpAnyG_take (i := 6) (oi := ?oima6) (v := .pointer (some ⟨G, i, none⟩)) ?hima6 (by kernel_rfl) (by kernel_rfl) (by kernel_rfl) (by kernel_rfl) ?hqma6 ?hyma6 hHeld ?hrma6
    case hima6 =>
      simp only [List.getElem?_toArray, List.getElem?_cons_succ, List.getElem?_cons_zero]
      rfl
    case hqma6 => exact fun _ _ _ h => h
    case hyma6 => exact Or.inl ⟨by kernel_rfl, fun w hSw => by go_simp⟩
    try simp only [Act.put, List.setIfInBounds_toArray, List.set_cons_zero, List.set_cons_succ]
    refine wpAnyG_take (i := 7) (oi := ?oima7) (v := .agg #[.slice (some ⟨g, 0, none⟩) p.length c]) ?hima7 (by kernel_rfl) (by kernel_rfl) (by kernel_rfl) (by kernel_rfl) ?hqma7 ?hyma7 hHeld ?hrma7
    case hima7 =>
      simp only [List.getElem?_toArray, List.getElem?_cons_succ, List.getElem?_cons_zero]
      rfl
    case hqma7 => exact fun _ _ _ h => h
    case hyma7 => exact Or.inl ⟨by kernel_rfl, fun w hSw => by obtain ⟨s1, s2, s3, s4, s5, s6⟩ := hSw; go_simp⟩
    try simp only [Act.put, List.setIfInBounds_toArray, List.set_cons_zero, List.set_cons_succ]
    refine wpAnyG_take (i := 8) (oi := ?oima8) (v := .pointer (some ⟨w.heap.size + 1, 2, none⟩)) ?hima8 (by kernel_rfl) (by kernel_rfl) (by kernel_rfl) (by kernel_rfl) ?hqma8 ?hyma8 hHeld ?hrma8
    case hima8 =>
      simp only [List.getElem?_toArray, List.getElem?_cons_succ, List.getElem?_cons_zero]
      rfl
    case hqma8 => exact fun _ _ _ h => h
    case hyma8 => exact Or.inl ⟨by kernel_rfl, fun w hSw => by go_simp⟩
    try simp only [Act.put, List.setIfInBounds_toArray, List.set_cons_zero, List.set_cons_succ]
    refine wpAnyG_take (i := 9) (oi := ?oima9) (v := .int .i64 (j : Int)) ?hima9 (by kernel_rfl) (by kernel_rfl) (by kernel_rfl) (by kernel_rfl) ?hqma9 ?hyma9 hHeld ?hrma9
    case hima9 =>
      simp only [List.getElem?_toArray, List.getElem?_cons_succ, List.getElem?_cons_zero]
      rfl
    case hqma9 => exact fun _ _ _ h => h
    case hyma9 => exact Or.inl ⟨by kernel_rfl, fun w hSw => by obtain ⟨s1, s2, s3, s4, s5, s6⟩ := hSw; go_simp⟩
    try simp only [Act.put, List.setIfInBounds_toArray, List.set_cons_zero, List.set_cons_succ]
    refine wpAnyG_take (i := 10) (oi := ?oima10) (v := .pointer (some ⟨w.heap.size + 1, 3, none⟩)) ?hima10 (by kernel_rfl) (by kernel_rfl) (by kernel_rfl) (by kernel_rfl) ?hqma10 ?hyma10 hHeld ?hrma10
    case hima10 =>
      simp only [List.getElem?_toArray, List.getElem?_cons_succ, List.getElem?_cons_zero]
      rfl
    case hqma10 => exact fun _ _ _ h => h
    case hyma10 => exact Or.inl ⟨by kernel_rfl, fun w hSw => by go_simp⟩
    try simp only [Act.put, List.setIfInBounds_toArray, List.set_cons_zero, List.set_cons_succ]
    refine wpAnyG_take (i := 11) (oi := ?oima11) (v := .agg #[.int .i64 sk, .int .i64 sx, .int .i64 sy]) ?hima11 (by kernel_rfl) (by kernel_rfl) (by kernel_rfl) (by kernel_rfl) ?hqma11 ?hyma11 hHeld ?hrma11
    case hima11 =>
      simp only [List.getElem?_toArray, List.getElem?_cons_succ, List.getElem?_cons_zero]
      rfl
    case hqma11 => exact fun _ _ _ h => h
    case hyma11 => exact Or.inl ⟨by kernel_rfl, fun w hSw => by obtain ⟨s1, s2, s3, s4, s5, s6⟩ := hSw; go_simp⟩
    try simp only [Act.put, List.setIfInBounds_toArray, List.set_cons_zero, List.set_cons_succ]
    refine wpAnyG_ready (rs := [12]) (by kernel_rfl) (by simp) ?_
    refine (AllReadyG.cons (o := ?ooma12) ?homa12 (fun K hK => ?hkma12) AllReadyG.nil)
    case homa12 =>
      simp only [List.getElem?_toArray, List.getElem?_cons_succ, List.getElem?_cons_zero]
      rfl
    case hkma12 =>
      go_simp
      try go_wp2_with fail
      have bz : Below w1.heap.size w1 (w1.alloc (.cells #[.int .i64 sk, .int .i64 sx, .int .i64 sy] 37)).drew := by go_grown
      have L2 : Hid ((w1.alloc (.cells #[.int .i64 sk, .int .i64 sx, .int .i64 sy] 37)).drew.heap[w1.heap.size]? = some (.cells #[.int .i64 sk, .int .i64 sx, .int .i64 sy] 37 (0, 0))) := heap_alloc_new w1 _
      have q2 : w1.heap.size < (w1.alloc (.cells #[.int .i64 sk, .int .i64 sx, .int .i64 sy] 37)).drew.heap.size := by simp
      have zz : (w1.alloc (.cells #[.int .i64 sk, .int .i64 sx, .int .i64 sy] 37)).drew.heap.size = w1.heap.size + 1 := by simp
      generalize (w1.alloc (.cells #[.int .i64 sk, .int .i64 sx, .int .i64 sy] 37)).drew = w2 at *
      have OW2 : Hid (Own13 w2 (w.heap.size + 3) (.slice (some ⟨G, 0, none⟩) ps.length cap) us ps) := HOW.out.kept bz
      have OX2 : Hid _ := own_kept HOX2.out bz
      have B2 : Hid (Below (w.heap.size + 3) w1 w2) := bz.mono HZ.out
      have m1 := (bz.cell (p := ⟨w.heap.size + 1, 1, none⟩) hE3).trans k1
      have m2 := (bz.cell (p := ⟨w.heap.size + 1, 2, none⟩) hE3).trans k2
      have m3 := (bz.cell (p := ⟨w.heap.size + 1, 3, none⟩) hE3).trans k3
      have m4 := (bz.cell (p := ⟨w.heap.size + 1, 4, none⟩) hE3).trans k4
      have m5 := (bz.cell (p := ⟨w.heap.size + 1, 5, none⟩) hE3).trans k5
      have m6 := (bz.cell (p := ⟨G, i, none⟩) hGb).trans hcG
      refine hK.out _ _ (Or.inr ⟨m1, m2, m3, m4, m5, m6⟩) (fun hHeld => ?_)
      replace hHeld := hHeld.resolve_left (by decide)
      clear hK K
      try simp only [Act.put, List.setIfInBounds_toArray, List.set_cons_zero, List.set_cons_succ]
      refine wpAnyG_ready (rs := [13]) (by kernel_rfl) (by simp) ?_
      refine (AllReadyG.cons (o := ?ooma13) ?homa13 (fun K hK => ?hkma13) AllReadyG.nil)
      case homa13 =>
        simp only [List.getElem?_toArray, List.getElem?_cons_succ, List.getElem?_cons_zero]
        rfl
      case hkma13 =>
        go_simp
        go_at_call 56
        refine (splicedSet p sk sx sy j w1.heap.size g c (w.heap.size + 3) w2 HPL.out.1 HPL.out.2.1 HPL.out.2.2 (by omega) (by omega) (by omega) OX2.out L2.out).mono ?_
        rintro r w4 ⟨q, c4, rfl, ow4', g4', hq4⟩
        have ow4 : Hid (w4.ownsRow (w.heap.size + 3) 37 3 (.slice (some ⟨q, 0, none⟩) (edSet p j ⟨sk, sx, sy⟩).length c4) (edSet p j ⟨sk, sx, sy⟩).length (cells3 (edSet p j ⟨sk, sx, sy⟩))) := ow4'
        have g4 : Hid (w2.grownBy w4 (some g)) := g4'
        clear ow4' g4'
        have HB4 : Hid (Below (w.heap.size + 3) w1 w4) := B2.out.grown g4.out (Nat.le_trans HZ.out B2.out.size) (fun q hq => by have := Option.some.inj hq; omega)
        have m7 := g4.out.cell m6 hng2
        have f7 : w4.frozen? ⟨G, i, none⟩ = false := (World.ownsRow.frozenAt (own_grown (World.ownsRow.mono13 OW2.out.row) g4.out (fun k hk e => hGg ((Option.some.inj hk).trans (Option.some.inj e).symm))) i)
        try go_wp2_with fail
        refine hK.out _ _ (Or.inr ⟨(g4.out.cell m1 hng1), (g4.out.cell m2 hng1), (g4.out.cell m3 hng1), (g4.out.cell m4 hng1), (g4.out.cell m5 hng1), (g4.out.cell m6 hng2)⟩) (fun hHeld => ?_)
        replace hHeld := hHeld.resolve_left (by decide)
        clear hK K
        try simp only [Act.put, List.setIfInBounds_toArray, List.set_cons_zero, List.set_cons_succ]
        refine wpAnyG_ready (rs := [14]) (by kernel_rfl) (by simp) ?_
        refine (AllReadyG.cons (o := ?ooma14) ?homa14 (fun K hK => ?hkma14) AllReadyG.nil)
        case homa14 =>
          simp only [List.getElem?_toArray, List.getElem?_cons_succ, List.getElem?_cons_zero]
          rfl
        case hkma14 =>
          go_simp
          try go_wp2_with fail
          refine hK.out _ _ (Or.inr ⟨(g4.out.cell m1 hng1), (g4.out.cell m2 hng1), (g4.out.cell m3 hng1), (g4.out.cell m4 hng1), (g4.out.cell m5 hng1), (g4.out.cell m6 hng2)⟩) (fun hHeld => ?_)
          replace hHeld := hHeld.resolve_left (by decide)
          clear hK K
          try simp only [Act.put, List.setIfInBounds_toArray, List.set_cons_zero, List.set_cons_succ]
          refine wpAnyG_ready (rs := [15]) (by kernel_rfl) (by simp) ?_
          refine (AllReadyG.cons (o := ?ooma15) ?homa15 (fun K hK => ?hkma15) AllReadyG.nil)
          case homa15 =>
            simp only [List.getElem?_toArray, List.getElem?_cons_succ, List.getElem?_cons_zero]
            rfl
          case hkma15 =>
            go_simp
            try go_wp2_with fail
            refine hK.out _ _ (Or.inl rfl) (fun _ => ?_)
            clear hK K
            try simp only [Act.put, List.setIfInBounds_toArray, List.set_cons_zero, List.set_cons_succ]
            refine wpAnyG_done (by kernel_rfl) ?_ _
            have HO5 : Hid _ := Own13.spl OW2.out hi HUI.out g4.out ow4.out hq4
            have HB5 : Hid (Below (w.heap.size + 3) w1 (w4.setCell ⟨G, i, none⟩ (.slice (some ⟨q, 0, none⟩) (edSet p j ⟨sk, sx, sy⟩).length c4))) := (HB4.out).setCell hGa _
            obtain ⟨r1, r2, r3⟩ := HRES.out _ (.slice (some ⟨G, 0, none⟩) ps.length cap) HB5.out
            obtain ⟨HE5, HF5⟩ := HEND.out _ _ _ HB5.out (by rw [HQS.out]; exact HO5.out)
            have HX5 : Hid _ := HE5
            have HY5 : Hid _ := HF5
            clear HE5 HF5
            generalize w4.setCell ⟨G, i, none⟩ (.slice (some ⟨q, 0, none⟩) (edSet p j ⟨sk, sx, sy⟩).length c4) = w5 at *
            go_wp2
            refine bodyPost_ret (v := .agg #[.slice (some ⟨G, 0, none⟩) ps.length cap]) (by simp [results, Try.results46, go_sem, r3]) rfl ?_
            exact ⟨_, _, rfl, HX5.out, HY5.out⟩
  by_cases hk2 : k = 2
  · subst hk2
    have HQS : Hid (qs = ps.set i (edAdd p j ⟨sk, sx, sy⟩)) := by
      have := HQ.out
      simp at this
      exact this.symm
    go_wp2_with fail
    refine wp_region_late (S := fun w' => w'.cell? ⟨w.heap.size + 1, 1, none⟩ = some (.int .i64 (i : Int)) ∧ w'.cell? ⟨w.heap.size + 1, 2, none⟩ = some (.int .i64 (j : Int)) ∧ w'.cell? ⟨w.heap.size + 1, 3, none⟩ = some (.int .i64 sk) ∧ w'.cell? ⟨w.heap.size + 1, 4, none⟩ = some (.int .i64 sx) ∧ w'.cell? ⟨w.heap.size + 1, 5, none⟩ = some (.int .i64 sy) ∧ w'.cell? ⟨G, i, none⟩ = some (.slice (some ⟨g, 0, none⟩) p.length c)) (late := fun j => j == 15) (by kernel_rfl) ⟨k1, k2, k3, k4, k5, hcG⟩ (fun hHeld => ?_)
    refine wpAnyG_take (i := 0) (oi := ?oimb0) (v := .slice (some ⟨G, 0, none⟩) ps.length cap) ?himb0 (by kernel_rfl) (by kernel_rfl) (by kernel_rfl) (by kernel_rfl) ?hqmb0 ?hymb0 hHeld ?hrmb0
    case himb0 =>
      simp only [List.getElem?_toArray, List.getElem?_cons_succ, List.getElem?_cons_zero]
      rfl
    case hqmb0 => exact fun _ _ _ h => h
    case hymb0 => exact Or.inl ⟨by kernel_rfl, fun w hSw => by go_simp⟩
    try simp only [Act.put, List.setIfInBounds_toArray, List.set_cons_zero, List.set_cons_succ]
    refine wpAnyG_take (i := 1) (oi := ?oimb1) (v := .pointer (some ⟨w.heap.size + 1, 1, none⟩)) ?himb1 (by kernel_rfl) (by kernel_rfl) (by kernel_rfl) (by kernel_rfl) ?hqmb1 ?hymb1 hHeld ?hrmb1
    case himb1 =>
      simp only [List.getElem?_toArray, List.getElem?_cons_succ, List.getElem?_cons_zero]
      rfl
    case hqmb1 => exact fun _ _ _ h => h
    case hymb1 => exact Or.inl ⟨by kernel_rfl, fun w hSw => by go_simp⟩
    try simp only [Act.put, List.setIfInBounds_toArray, List.set_cons_zero, List.set_cons_succ]
    refine wpAnyG_take (i := 2) (oi := ?oimb2) (v := .int .i64 (i : Int)) ?himb2 (by kernel_rfl) (by kernel_rfl) (by kernel_rfl) (by kernel_rfl) ?hqmb2 ?hymb2 hHeld ?hrmb2
    case himb2 =>
      simp only [List.getElem?_toArray, List.getElem?_cons_succ, List.getElem?_cons_zero]
      rfl
    case hqmb2 => exact fun _ _ _ h => h
    case hymb2 => exact Or.inl ⟨by kernel_rfl, fun w hSw => by obtain ⟨s1, s2, s3, s4, s5, s6⟩ := hSw; go_simp⟩
    try simp only [Act.put, List.setIfInBounds_toArray, List.set_cons_zero, List.set_cons_succ]
    refine wpAnyG_take (i := 3) (oi := ?oimb3) (v := .slice (some ⟨G, 0, none⟩) ps.length cap) ?himb3 (by kernel_rfl) (by kernel_rfl) (by kernel_rfl) (by kernel_rfl) ?hqmb3 ?hymb3 hHeld ?hrmb3
    case himb3 =>
      simp only [List.getElem?_toArray, List.getElem?_cons_succ, List.getElem?_cons_zero]
      rfl
    case hqmb3 => exact fun _ _ _ h => h
    case hymb3 => exact Or.inl ⟨by kernel_rfl, fun w hSw => by go_simp⟩
    try simp only [Act.put, List.setIfInBounds_toArray, List.set_cons_zero, List.set_cons_succ]
    refine wpAnyG_take (i := 4) (oi := ?oimb4) (v := .pointer (some ⟨w.heap.size + 1, 1, none⟩)) ?himb4 (by kernel_rfl) (by kernel_rfl) (by kernel_rfl) (by kernel_rfl) ?hqmb4 ?hymb4 hHeld ?hrmb4
    case himb4 =>
      simp only [List.getElem?_toArray, List.getElem?_cons_succ, List.getElem?_cons_zero]
      rfl
    case hqmb4 => exact fun _ _ _ h => h
    case hymb4 => exact Or.inl ⟨by kernel_rfl, fun w hSw => by go_simp⟩
    try simp only [Act.put, List.setIfInBounds_toArray, List.set_cons_zero, List.set_cons_succ]
    refine wpAnyG_take (i := 5) (oi := ?oimb5) (v := .int .i64 (i : Int)) ?himb5 (by kernel_rfl) (by kernel_rfl) (by kernel_rfl) (by kernel_rfl) ?hqmb5 ?hymb5 hHeld ?hrmb5
    case himb5 =>
      simp only [List.getElem?_toArray, List.getElem?_cons_succ, List.getElem?_cons_zero]
      rfl
    case hqmb5 => exact fun _ _ _ h => h
    case hymb5 => exact Or.inl ⟨by kernel_rfl, fun w hSw => by obtain ⟨s1, s2, s3, s4, s5, s6⟩ := hSw; go_simp⟩
    try simp only [Act.put, List.setIfInBounds_toArray, List.set_cons_zero, List.set_cons_succ]
    refine wpAnyG_take (i := 6) (oi := ?oimb6) (v := .pointer (some ⟨G, i, none⟩)) ?himb6 (by kernel_rfl) (by kernel_rfl) (by kernel_rfl) (by kernel_rfl) ?hqmb6 ?hymb6 hHeld ?hrmb6
    case himb6 =>
      simp only [List.getElem?_toArray, List.getElem?_cons_succ, List.getElem?_cons_zero]
      rfl
    case hqmb6 => exact fun _ _ _ h => h
    case hymb6 => exact Or.inl ⟨by kernel_rfl, fun w hSw => by go_simp⟩
    try simp only [Act.put, List.setIfInBounds_toArray, List.set_cons_zero, List.set_cons_succ]
    refine wpAnyG_take (i := 7) (oi := ?oimb7) (v := .agg #[.slice (some ⟨g, 0, none⟩) p.length c]) ?himb7 (by kernel_rfl) (by kernel_rfl) (by kernel_rfl) (by kernel_rfl) ?hqmb7 ?hymb7 hHeld ?hrmb7
    case himb7 =>
      simp only [List.getElem?_toArray, List.getElem?_cons_succ, List.getElem?_cons_zero]
      rfl
    case hqmb7 => exact fun _ _ _ h => h
    case hymb7 => exact Or.inl ⟨by kernel_rfl, fun w hSw => by obtain ⟨s1, s2, s3, s4, s5, s6⟩ := hSw; go_simp⟩
    try simp only [Act.put, List.setIfInBounds_toArray, List.set_cons_zero, List.set_cons_succ]
    refine wpAnyG_take (i := 8) (oi := ?oimb8) (v := .pointer (some ⟨w.heap.size + 1, 2, none⟩)) ?himb8 (by kernel_rfl) (by kernel_rfl) (by kernel_rfl) (by kernel_rfl) ?hqmb8 ?hymb8 hHeld ?hrmb8
    case himb8 =>
      simp only [List.getElem?_toArray, List.getElem?_cons_succ, List.getElem?_cons_zero]
      rfl
    case hqmb8 => exact fun _ _ _ h => h
    case hymb8 => exact Or.inl ⟨by kernel_rfl, fun w hSw => by go_simp⟩
    try simp only [Act.put, List.setIfInBounds_toArray, List.set_cons_zero, List.set_cons_succ]
    refine wpAnyG_take (i := 9) (oi := ?oimb9) (v := .int .i64 (j : Int)) ?himb9 (by kernel_rfl) (by kernel_rfl) (by kernel_rfl) (by kernel_rfl) ?hqmb9 ?hymb9 hHeld ?hrmb9
    case himb9 =>
      simp only [List.getElem?_toArray, List.getElem?_cons_succ, List.getElem?_cons_zero]
      rfl
    case hqmb9 => exact fun _ _ _ h => h
    case hymb9 => exact Or.inl ⟨by kernel_rfl, fun w hSw => by obtain ⟨s1, s2, s3, s4, s5, s6⟩ := hSw; go_simp⟩
    try simp only [Act.put, List.setIfInBounds_toArray, List.set_cons_zero, List.set_cons_succ]
    refine wpAnyG_take (i := 10) (oi := ?oimb10) (v := .pointer (some ⟨w.heap.size + 1, 3, none⟩)) ?himb10 (by kernel_rfl) (by kernel_rfl) (by kernel_rfl) (by kernel_rfl) ?hqmb10 ?hymb10 hHeld ?hrmb10
    case himb10 =>
      simp only [List.getElem?_toArray, List.getElem?_cons_succ, List.getElem?_cons_zero]
      rfl
    case hqmb10 => exact fun _ _ _ h => h
    case hymb10 => exact Or.inl ⟨by kernel_rfl, fun w hSw => by go_simp⟩
    try simp only [Act.put, List.setIfInBounds_toArray, List.set_cons_zero, List.set_cons_succ]
    refine wpAnyG_take (i := 11) (oi := ?oimb11) (v := .agg #[.int .i64 sk, .int .i64 sx, .int .i64 sy]) ?himb11 (by kernel_rfl) (by kernel_rfl) (by kernel_rfl) (by kernel_rfl) ?hqmb11 ?hymb11 hHeld ?hrmb11
    case himb11 =>
      simp only [List.getElem?_toArray, List.getElem?_cons_succ, List.getElem?_cons_zero]
      rfl
    case hqmb11 => exact fun _ _ _ h => h
    case hymb11 => exact Or.inl ⟨by kernel_rfl, fun w hSw => by obtain ⟨s1, s2, s3, s4, s5, s6⟩ := hSw; go_simp⟩
    try simp only [Act.put, List.setIfInBounds_toArray, List.set_cons_zero, List.set_cons_succ]
    refine wpAnyG_ready (rs := [12]) (by kernel_rfl) (by simp) ?_
    refine (AllReadyG.cons (o := ?oomb12) ?homb12 (fun K hK => ?hkmb12) AllReadyG.nil)
    case homb12 =>
      simp only [List.getElem?_toArray, List.getElem?_cons_succ, List.getElem?_cons_zero]
      rfl
    case hkmb12 =>
      go_simp
      try go_wp2_with fail
      have bz : Below w1.heap.size w1 (w1.alloc (.cells #[.int .i64 sk, .int .i64 sx, .int .i64 sy] 37)).drew := by go_grown
      have L2 : Hid ((w1.alloc (.cells #[.int .i64 sk, .int .i64 sx, .int .i64 sy] 37)).drew.heap[w1.heap.size]? = some (.cells #[.int .i64 sk, .int .i64 sx, .int .i64 sy] 37 (0, 0))) := heap_alloc_new w1 _
      have q2 : w1.heap.size < (w1.alloc (.cells #[.int .i64 sk, .int .i64 sx, .int .i64 sy] 37)).drew.heap.size := by simp
      have zz : (w1.alloc (.cells #[.int .i64 sk, .int .i64 sx, .int .i64 sy] 37)).drew.heap.size = w1.heap.size + 1 := by simp
      generalize (w1.alloc (.cells #[.int .i64 sk, .int .i64 sx, .int .i64 sy] 37)).drew = w2 at *
      have OW2 : Hid (Own13 w2 (w.heap.size + 3) (.slice (some ⟨G, 0, none⟩) ps.length cap) us ps) := HOW.out.kept bz
      have OX2 : Hid _ := own_kept HOX2.out bz
      have B2 : Hid (Below (w.heap.size + 3) w1 w2) := bz.mono HZ.out
      have m1 := (bz.cell (p := ⟨w.heap.size + 1, 1, none⟩) hE3).trans k1
      have m2 := (bz.cell (p := ⟨w.heap.size + 1, 2, none⟩) hE3).trans k2
      have m3 := (bz.cell (p := ⟨w.heap.size + 1, 3, none⟩) hE3).trans k3
      have m4 := (bz.cell (p := ⟨w.heap.size + 1, 4, none⟩) hE3).trans k4
      have m5 := (bz.cell (p := ⟨w.heap.size + 1, 5, none⟩) hE3).trans k5
      have m6 := (bz.cell (p := ⟨G, i, none⟩) hGb).trans hcG
      refine hK.out _ _ (Or.inr ⟨m1, m2, m3, m4, m5, m6⟩) (fun hHeld => ?_)
      replace hHeld := hHeld.resolve_left (by decide)
      clear hK K
      try simp only [Act.put, List.setIfInBounds_toArray, List.set_cons_zero, List.set_cons_succ]
      refine wpAnyG_ready (rs := [13]) (by kernel_rfl) (by simp) ?_
      refine (AllReadyG.cons (o := ?oomb13) ?homb13 (fun K hK => ?hkmb13) AllReadyG.nil)
      case homb13 =>
        simp only [List.getElem?_toArray, List.getElem?_cons_succ, List.getElem?_cons_zero]
        rfl
      case hkmb13 =>
        go_simp
        go_at_call 56
        refine (splicedAdd p sk sx sy j w1.heap.size g c (w.heap.size + 3) w2 HPL.out.1 HPL.out.2.1 HPL.out.2.2 (by omega) (by omega) (by omega) OX2.out L2.out).mono ?_
        rintro r w4 ⟨q, c4, rfl, ow4', g4', hq4⟩
        have ow4 : Hid (w4.ownsRow (w.heap.size + 3) 37 3 (.slice (some ⟨q, 0, none⟩) (edAdd p j ⟨sk, sx, sy⟩).length c4) (edAdd p j ⟨sk, sx, sy⟩).length (cells3 (edAdd p j ⟨sk, sx, sy⟩))) := ow4'
        have g4 : Hid (w2.grownBy w4 (some g)) := g4'
        clear ow4' g4'
        have HB4 : Hid (Below (w.heap.size + 3) w1 w4) := B2.out.grown g4.out (Nat.le_trans HZ.out B2.out.size) (fun q hq => by have := Option.some.inj hq; omega)
        have m7 := g4.out.cell m6 hng2
        have f7 : w4.frozen? ⟨G, i, none⟩ = false := (World.ownsRow.frozenAt (own_grown (World.ownsRow.mono13 OW2.out.row) g4.out (fun k hk e => hGg ((Option.some.inj hk).trans (Option.some.inj e).symm))) i)
        try go_wp2_with fail
        refine hK.out _ _ (Or.inr ⟨(g4.out.cell m1 hng1), (g4.out.cell m2 hng1), (g4.out.cell m3 hng1), (g4.out.cell m4 hng1), (g4.out.cell m5 hng1), (g4.out.cell m6 hng2)⟩) (fun hHeld => ?_)
        replace hHeld := hHeld.resolve_left (by decide)
        clear hK K
        try simp only [Act.put, List.setIfInBounds_toArray, List.set_cons_zero, List.set_cons_succ]
        refine wpAnyG_ready (rs := [14]) (by kernel_rfl) (by simp) ?_
        refine (AllReadyG.cons (o := ?oomb14) ?homb14 (fun K hK => ?hkmb14) AllReadyG.nil)
        case homb14 =>
          simp only [List.getElem?_toArray, List.getElem?_cons_succ, List.getElem?_cons_zero]
          rfl
        case hkmb14 =>
          go_simp
          try go_wp2_with fail
          refine hK.out _ _ (Or.inr ⟨(g4.out.cell m1 hng1), (g4.out.cell m2 hng1), (g4.out.cell m3 hng1), (g4.out.cell m4 hng1), (g4.out.cell m5 hng1), (g4.out.cell m6 hng2)⟩) (fun hHeld => ?_)
          replace hHeld := hHeld.resolve_left (by decide)
          clear hK K
          try simp only [Act.put, List.setIfInBounds_toArray, List.set_cons_zero, List.set_cons_succ]
          refine wpAnyG_ready (rs := [15]) (by kernel_rfl) (by simp) ?_
          refine (AllReadyG.cons (o := ?oomb15) ?homb15 (fun K hK => ?hkmb15) AllReadyG.nil)
          case homb15 =>
            simp only [List.getElem?_toArray, List.getElem?_cons_succ, List.getElem?_cons_zero]
            rfl
          case hkmb15 =>
            go_simp
            try go_wp2_with fail
            refine hK.out _ _ (Or.inl rfl) (fun _ => ?_)
            clear hK K
            try simp only [Act.put, List.setIfInBounds_toArray, List.set_cons_zero, List.set_cons_succ]
            refine wpAnyG_done (by kernel_rfl) ?_ _
            have HO5 : Hid _ := Own13.spl OW2.out hi HUI.out g4.out ow4.out hq4
            have HB5 : Hid (Below (w.heap.size + 3) w1 (w4.setCell ⟨G, i, none⟩ (.slice (some ⟨q, 0, none⟩) (edAdd p j ⟨sk, sx, sy⟩).length c4))) := (HB4.out).setCell hGa _
            obtain ⟨r1, r2, r3⟩ := HRES.out _ (.slice (some ⟨G, 0, none⟩) ps.length cap) HB5.out
            obtain ⟨HE5, HF5⟩ := HEND.out _ _ _ HB5.out (by rw [HQS.out]; exact HO5.out)
            have HX5 : Hid _ := HE5
            have HY5 : Hid _ := HF5
            clear HE5 HF5
            generalize w4.setCell ⟨G, i, none⟩ (.slice (some ⟨q, 0, none⟩) (edAdd p j ⟨sk, sx, sy⟩).length c4) = w5 at *
            go_wp2
            refine bodyPost_ret (v := .agg #[.slice (some ⟨G, 0, none⟩) ps.length cap]) (by simp [results, Try.results46, go_sem, r3]) rfl ?_
            exact ⟨_, _, rfl, HX5.out, HY5.out⟩
  by_cases hk3 : k = 3
  · subst hk3
    have HQS : Hid (qs = ps.set i (edDrop p j)) := by
      have := HQ.out
      simp at this
      exact this.2.symm
    have OW2 : Hid (Own13 w1.drew (w.heap.size + 3) (.slice (some ⟨G, 0, none⟩) ps.length cap) us ps) := HOW.out.kept (Below.drew (Below.refl _ _))
    have B2 : Hid (Below (w.heap.size + 3) w1 w1.drew) := Below.drew (Below.refl _ _)
    have OX2 : Hid (w1.drew.ownsRow (w.heap.size + 3) 37 3 (.slice (some ⟨g, 0, none⟩) p.length c) p.length (cells3 p)) := own_kept HOX2.out (Below.drew (Below.refl _ _))
    have m1 : w1.drew.cell? ⟨w.heap.size + 1, 1, none⟩ = some (.int .i64 (i : Int)) := k1
    have m2 : w1.drew.cell? ⟨w.heap.size + 1, 2, none⟩ = some (.int .i64 (j : Int)) := k2
    have m3 : w1.drew.cell? ⟨w.heap.size + 1, 3, none⟩ = some (.int .i64 sk) := k3
    have m4 : w1.drew.cell? ⟨w.heap.size + 1, 4, none⟩ = some (.int .i64 sx) := k4
    have m5 : w1.drew.cell? ⟨w.heap.size + 1, 5, none⟩ = some (.int .i64 sy) := k5
    have m6 : w1.drew.cell? ⟨G, i, none⟩ = some (.slice (some ⟨g, 0, none⟩) p.length c) := hcG
    have zz : w1.drew.heap.size = w1.heap.size := rfl
    go_wp2_with fail
    refine wp_region_late (S := fun w' => w'.cell? ⟨w.heap.size + 1, 1, none⟩ = some (.int .i64 (i : Int)) ∧ w'.cell? ⟨w.heap.size + 1, 2, none⟩ = some (.int .i64 (j : Int)) ∧ w'.cell? ⟨w.heap.size + 1, 3, none⟩ = some (.int .i64 sk) ∧ w'.cell? ⟨w.heap.size + 1, 4, none⟩ = some (.int .i64 sx) ∧ w'.cell? ⟨w.heap.size + 1, 5, none⟩ = some (.int .i64 sy) ∧ w'.cell? ⟨G, i, none⟩ = some (.slice (some ⟨g, 0, none⟩) p.length c)) (late := fun j => j == 12) (by kernel_rfl) ⟨k1, k2, k3, k4, k5, hcG⟩ (fun hHeld => ?_)
    refine wpAnyG_take (i := 0) (oi := ?oimc0) (v := .slice (some ⟨G, 0, none⟩) ps.length cap) ?himc0 (by kernel_rfl) (by kernel_rfl) (by kernel_rfl) (by kernel_rfl) ?hqmc0 ?hymc0 hHeld ?hrmc0
    case himc0 =>
      simp only [List.getElem?_toArray, List.getElem?_cons_succ, List.getElem?_cons_zero]
      rfl
    case hqmc0 => exact fun _ _ _ h => h
    case hymc0 => exact Or.inl ⟨by kernel_rfl, fun w hSw => by go_simp⟩
    try simp only [Act.put, List.setIfInBounds_toArray, List.set_cons_zero, List.set_cons_succ]
    refine wpAnyG_take (i := 1) (oi := ?oimc1) (v := .pointer (some ⟨w.heap.size + 1, 1, none⟩)) ?himc1 (by kernel_rfl) (by kernel_rfl) (by kernel_rfl) (by kernel_rfl) ?hqmc1 ?hymc1 hHeld ?hrmc1
    case himc1 =>
      simp only [List.getElem?_toArray, List.getElem?_cons_succ, List.getElem?_cons_zero]
      rfl
    case hqmc1 => exact fun _ _ _ h => h
    case hymc1 => exact Or.inl ⟨by kernel_rfl, fun w hSw => by go_simp⟩
    try simp only [Act.put, List.setIfInBounds_toArray, List.set_cons_zero, List.set_cons_succ]
    refine wpAnyG_take (i := 2) (oi := ?oimc2) (v := .int .i64 (i : Int)) ?himc2 (by kernel_rfl) (by kernel_rfl) (by kernel_rfl) (by kernel_rfl) ?hqmc2 ?hymc2 hHeld ?hrmc2
    case himc2 =>
      simp only [List.getElem?_toArray, List.getElem?_cons_succ, List.getElem?_cons_zero]
      rfl
    case hqmc2 => exact fun _ _ _ h => h
    case hymc2 => exact Or.inl ⟨by kernel_rfl, fun w hSw => by obtain ⟨s1, s2, s3, s4, s5, s6⟩ := hSw; go_simp⟩
    try simp only [Act.put, List.setIfInBounds_toArray, List.set_cons_zero, List.set_cons_succ]
    refine wpAnyG_take (i := 3) (oi := ?oimc3) (v := .slice (some ⟨G, 0, none⟩) ps.length cap) ?himc3 (by kernel_rfl) (by kernel_rfl) (by kernel_rfl) (by kernel_rfl) ?hqmc3 ?hymc3 hHeld ?hrmc3
    case himc3 =>
      simp only [List.getElem?_toArray, List.getElem?_cons_succ, List.getElem?_cons_zero]
      rfl
    case hqmc3 => exact fun _ _ _ h => h
    case hymc3 => exact Or.inl ⟨by kernel_rfl, fun w hSw => by go_simp⟩
    try simp only [Act.put, List.setIfInBounds_toArray, List.set_cons_zero, List.set_cons_succ]
    refine wpAnyG_take (i := 4) (oi := ?oimc4) (v := .pointer (some ⟨w.heap.size + 1, 1, none⟩)) ?himc4 (by kernel_rfl) (by kernel_rfl) (by kernel_rfl) (by kernel_rfl) ?hqmc4 ?hymc4 hHeld ?hrmc4
    case himc4 =>
      simp only [List.getElem?_toArray, List.getElem?_cons_succ, List.getElem?_cons_zero]
      rfl
    case hqmc4 => exact fun _ _ _ h => h
    case hymc4 => exact Or.inl ⟨by kernel_rfl, fun w hSw => by go_simp⟩
    try simp only [Act.put, List.setIfInBounds_toArray, List.set_cons_zero, List.set_cons_succ]
    refine wpAnyG_take (i := 5) (oi := ?oimc5) (v := .int .i64 (i : Int)) ?himc5 (by kernel_rfl) (by kernel_rfl) (by kernel_rfl) (by kernel_rfl) ?hqmc5 ?hymc5 hHeld ?hrmc5
    case himc5 =>
      simp only [List.getElem?_toArray, List.getElem?_cons_succ, List.getElem?_cons_zero]
      rfl
    case hqmc5 => exact fun _ _ _ h => h
    case hymc5 => exact Or.inl ⟨by kernel_rfl, fun w hSw => by obtain ⟨s1, s2, s3, s4, s5, s6⟩ := hSw; go_simp⟩
    try simp only [Act.put, List.setIfInBounds_toArray, List.set_cons_zero, List.set_cons_succ]
    refine wpAnyG_take (i := 6) (oi := ?oimc6) (v := .pointer (some ⟨G, i, none⟩)) ?himc6 (by kernel_rfl) (by kernel_rfl) (by kernel_rfl) (by kernel_rfl) ?hqmc6 ?hymc6 hHeld ?hrmc6
    case himc6 =>
      simp only [List.getElem?_toArray, List.getElem?_cons_succ, List.getElem?_cons_zero]
      rfl
    case hqmc6 => exact fun _ _ _ h => h
    case hymc6 => exact Or.inl ⟨by kernel_rfl, fun w hSw => by go_simp⟩
    try simp only [Act.put, List.setIfInBounds_toArray, List.set_cons_zero, List.set_cons_succ]
    refine wpAnyG_take (i := 7) (oi := ?oimc7) (v := .agg #[.slice (some ⟨g, 0, none⟩) p.length c]) ?himc7 (by kernel_rfl) (by kernel_rfl) (by kernel_rfl) (by kernel_rfl) ?hqmc7 ?hymc7 hHeld ?hrmc7
    case himc7 =>
      simp only [List.getElem?_toArray, List.getElem?_cons_succ, List.getElem?_cons_zero]
      rfl
    case hqmc7 => exact fun _ _ _ h => h
    case hymc7 => exact Or.inl ⟨by kernel_rfl, fun w hSw => by obtain ⟨s1, s2, s3, s4, s5, s6⟩ := hSw; go_simp⟩
    try simp only [Act.put, List.setIfInBounds_toArray, List.set_cons_zero, List.set_cons_succ]
    refine wpAnyG_take (i := 8) (oi := ?oimc8) (v := .pointer (some ⟨w.heap.size + 1, 2, none⟩)) ?himc8 (by kernel_rfl) (by kernel_rfl) (by kernel_rfl) (by kernel_rfl) ?hqmc8 ?hymc8 hHeld ?hrmc8
    case himc8 =>
      simp only [List.getElem?_toArray, List.getElem?_cons_succ, List.getElem?_cons_zero]
      rfl
    case hqmc8 => exact fun _ _ _ h => h
    case hymc8 => exact Or.inl ⟨by kernel_rfl, fun w hSw => by go_simp⟩
    try simp only [Act.put, List.setIfInBounds_toArray, List.set_cons_zero, List.set_cons_succ]
    refine wpAnyG_take (i := 9) (oi := ?oimc9) (v := .int .i64 (j : Int)) ?himc9 (by kernel_rfl) (by kernel_rfl) (by kernel_rfl) (by kernel_rfl) ?hqmc9 ?hymc9 hHeld ?hrmc9
    case himc9 =>
      simp only [List.getElem?_toArray, List.getElem?_cons_succ, List.getElem?_cons_zero]
      rfl
    case hqmc9 => exact fun _ _ _ h => h
    case hymc9 => exact Or.inl ⟨by kernel_rfl, fun w hSw => by obtain ⟨s1, s2, s3, s4, s5, s6⟩ := hSw; go_simp⟩
    try simp only [Act.put, List.setIfInBounds_toArray, List.set_cons_zero, List.set_cons_succ]
    refine wpAnyG_ready (rs := [10]) (by kernel_rfl) (by simp) ?_
    refine (AllReadyG.cons (o := ?oomc10) ?homc10 (fun K hK => ?hkmc10) AllReadyG.nil)
    case homc10 =>
      simp only [List.getElem?_toArray, List.getElem?_cons_succ, List.getElem?_cons_zero]
      rfl
    case hkmc10 =>
      go_simp
      go_at_call 56
      refine (splicedDrop p j g c (w.heap.size + 3) w1.drew HPL.out.1 HPL.out.2.1 HPL.out.2.2 (by omega) (by omega) OX2.out).mono ?_
      rintro r w4 ⟨q, c4, rfl, ow4', g4', hq4⟩
      have ow4 : Hid (w4.ownsRow (w.heap.size + 3) 37 3 (.slice (some ⟨q, 0, none⟩) (edDrop p j).length c4) (edDrop p j).length (cells3 (edDrop p j))) := ow4'
      have g4 : Hid (w1.drew.grownBy w4 (some g)) := g4'
      clear ow4' g4'
      have HB4 : Hid (Below (w.heap.size + 3) w1 w4) := B2.out.grown g4.out (Nat.le_trans HZ.out B2.out.size) (fun q hq => by have := Option.some.inj hq; omega)
      have m7 := g4.out.cell m6 hng2
      have f7 : w4.frozen? ⟨G, i, none⟩ = false := (World.ownsRow.frozenAt (own_grown (World.ownsRow.mono13 OW2.out.row) g4.out (fun k hk e => hGg ((Option.some.inj hk).trans (Option.some.inj e).symm))) i)
      try go_wp2_with fail
      refine hK.out _ _ (Or.inr ⟨(g4.out.cell m1 hng1), (g4.out.cell m2 hng1), (g4.out.cell m3 hng1), (g4.out.cell m4 hng1), (g4.out.cell m5 hng1), (g4.out.cell m6 hng2)⟩) (fun hHeld => ?_)
      replace hHeld := hHeld.resolve_left (by decide)
      clear hK K
      try simp only [Act.put, List.setIfInBounds_toArray, List.set_cons_zero, List.set_cons_succ]
      refine wpAnyG_ready (rs := [11]) (by kernel_rfl) (by simp) ?_
      refine (AllReadyG.cons (o := ?oomc11) ?homc11 (fun K hK => ?hkmc11) AllReadyG.nil)
      case homc11 =>
        simp only [List.getElem?_toArray, List.getElem?_cons_succ, List.getElem?_cons_zero]
        rfl
      case hkmc11 =>
        go_simp
        try go_wp2_with fail
        refine hK.out _ _ (Or.inr ⟨(g4.out.cell m1 hng1), (g4.out.cell m2 hng1), (g4.out.cell m3 hng1), (g4.out.cell m4 hng1), (g4.out.cell m5 hng1), (g4.out.cell m6 hng2)⟩) (fun hHeld => ?_)
        replace hHeld := hHeld.resolve_left (by decide)
        clear hK K
        try simp only [Act.put, List.setIfInBounds_toArray, List.set_cons_zero, List.set_cons_succ]
        refine wpAnyG_ready (rs := [12]) (by kernel_rfl) (by simp) ?_
        refine (AllReadyG.cons (o := ?oomc12) ?homc12 (fun K hK => ?hkmc12) AllReadyG.nil)
        case homc12 =>
          simp only [List.getElem?_toArray, List.getElem?_cons_succ, List.getElem?_cons_zero]
          rfl
        case hkmc12 =>
          go_simp
          try go_wp2_with fail
          refine hK.out _ _ (Or.inl rfl) (fun _ => ?_)
          clear hK K
          try simp only [Act.put, List.setIfInBounds_toArray, List.set_cons_zero, List.set_cons_succ]
          refine wpAnyG_done (by kernel_rfl) ?_ _
          have HO5 : Hid _ := Own13.spl OW2.out hi HUI.out g4.out ow4.out hq4
          have HB5 : Hid (Below (w.heap.size + 3) w1 (w4.setCell ⟨G, i, none⟩ (.slice (some ⟨q, 0, none⟩) (edDrop p j).length c4))) := (HB4.out).setCell hGa _
          obtain ⟨r1, r2, r3⟩ := HRES.out _ (.slice (some ⟨G, 0, none⟩) ps.length cap) HB5.out
          obtain ⟨HE5, HF5⟩ := HEND.out _ _ _ HB5.out (by rw [HQS.out]; exact HO5.out)
          have HX5 : Hid _ := HE5
          have HY5 : Hid _ := HF5
          clear HE5 HF5
          generalize w4.setCell ⟨G, i, none⟩ (.slice (some ⟨q, 0, none⟩) (edDrop p j).length c4) = w5 at *
          go_wp2
          refine bodyPost_ret (v := .agg #[.slice (some ⟨G, 0, none⟩) ps.length cap]) (by simp [results, Try.results46, go_sem, r3]) rfl ?_
          exact ⟨_, _, rfl, HX5.out, HY5.out⟩
  · have := HQ.out
    simp [hk1, hk2, hk3] at this

end Go.Proofs.Ytoflfeegllpifaa
