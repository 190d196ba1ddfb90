/-
 Put together out of: SpecEd, MarkStm, MarkProg, HeldProg.
-/
import Derived.Test.YtldagpfeaabcdaaGreatDoorDoSet
import Derived.Test.YtldagpfeaabcdaaGreatDoorDoAdd
import Derived.Test.YtldagpfeaabcdaaGreatDoorDoDrop
import Derived.Test.YtldagpfeaabcdaaGreatDoorDoProc
namespace Go.Proofs.YtldagpfeaabcdaaGreatDoor
open Go.RowKit
set_option linter.unusedVariables false
set_option linter.unusedSimpArgs false
set_option maxHeartbeats 4000000
set_option maxRecDepth 20000
theorem l13Do (ps : List (List Stm)) (k pr a : Int) (s : Stm) (P base G cap : Nat) (us : List Value) (w : World) (hok : ja5 ps = true) (hbP : base ≤ P) (hbase : base ≤ w.heap.size)
 (hP : w.heap[P]? = some (.cells #[.slice (some ⟨G, 0, none⟩) ps.length cap] 26 (0, 0))) (hO : Own13 w base (.slice (some ⟨G, 0, none⟩) ps.length cap) us ps) :
 Calls Tryz.prog 50 #[.pointer (some ⟨P, 0, none⟩), .agg #[.int .i64 k, .int .i64 pr, .int .i64 a, .int .i64 s.k, .int .i64 s.x, .int .i64 s.y]] w fun r w' => r = .returned (.bool (jn4 ps k pr a s).isSome) ∧ Below base w w' ∧ ∀ qs, jn4 ps k pr a s = some qs → ∃ u vs, w'.heap[P]? = some (.cells #[u] 26 (0, 0)) ∧ Own13 w' base u vs qs := by
 obtain ⟨hl1, hl4, hpo⟩ := progs13 hok
 have hp100 : ∀ p ∈ ps, p.length ≤ 100 := fun p hp => by have := (procs13 (hpo p hp)).2.1; omega
 obtain ⟨sk, sx, sy⟩ := s
 simp only
 by_cases hk4 : k = 4
 · subst hk4
   refine (l13DoProc ps pr a sk sx sy P base G cap us w (by omega) hbP hbase hP hO).mono ?_
   rintro r w' ⟨rfl, u, vs, h1, h2, h3⟩
   unfold jn4
   simp only [if_true]
   by_cases hz : pr = 0 ∧ a = 0 ∧ qe5 ⟨sk, sx, sy⟩ = true
   · rw [if_pos hz]
     obtain ⟨e1, e2, e3⟩ := hz
     refine ⟨by simp [e1, e2, e3], h3, fun qs hq => ?_⟩
     obtain rfl := Option.some.inj hq
     exact ⟨u, vs, h1, h2⟩
   · rw [if_neg hz]
     refine ⟨?_, h3, fun qs hq => by cases hq⟩
     have hf : (decide (pr = 0) && decide (a = 0) && qe5 ⟨sk, sx, sy⟩) = false := by
      rw [Bool.eq_false_iff]
      intro h
      simp only [Bool.and_eq_true, decide_eq_true_eq] at h
      exact hz ⟨h.1.1, h.1.2, h.2⟩
     rw [hf]
     rfl
 by_cases hw1 : wiB pr ps.length = true
 · by_cases hw2 : wiB a (ps.getD pr.toNat []).length = true
   · obtain ⟨y0, y1⟩ := qa4 hw1
     obtain ⟨y2, y3⟩ := qa4 hw2
     by_cases hk : k = 1 ∨ k = 2 ∨ k = 3
     · unfold jn4
       rw [if_neg hk4]
       rw [hw1, hw2]
       simp only [Bool.and_self, if_true]
       obtain ⟨i, rfl⟩ : ∃ i : Nat, pr = i := ⟨pr.toNat, by omega⟩
       obtain ⟨j, rfl⟩ : ∃ j : Nat, a = j := ⟨a.toNat, by omega⟩
       have hi : i < ps.length := by omega
       have hgd : ps.getD i [] = ps[i] := by simp [List.getD, hi]
       simp only [Int.toNat_natCast, hgd] at y3 ⊢
       obtain ⟨hq0, hq1, hqy⟩ := procs13 (hpo ps[i] (List.getElem_mem hi))
       have hpi : ps[i]? = some ps[i] := by simp [hi]
       obtain ⟨x, hui⟩ : ∃ x, us[i]? = some x := ⟨us[i]'(by rw [hO.len]; exact hi), by simp⟩
       have hox := hO.each i x ps[i] hui hpi
       obtain ⟨g, c, rfl⟩ := jr1 hox hq0
       rcases hk with rfl | rfl | rfl
       · refine (l13DoSet ps ps[i] sk sx sy i j ps.length ps[i].length P base G cap g c us w rfl (by omega) hi hpi rfl (by omega) (by omega) hui hbP hbase hP hO).mono ?_
         rintro r w' ⟨rfl, vs, h1, h2, h3⟩
         refine ⟨rfl, h3, fun qs hq => ?_⟩
         simp only [if_true] at hq
         obtain rfl := Option.some.inj hq
         exact ⟨_, vs, h1, h2⟩
       · refine (l13DoAdd ps ps[i] sk sx sy i j ps.length ps[i].length P base G cap g c us w rfl (by omega) hi hpi rfl (by omega) (by omega) hqy hui hbP hbase hP hO).mono ?_
         rintro r w' ⟨rfl, vs, h1, h2, h3⟩
         refine ⟨rfl, h3, fun qs hq => ?_⟩
         simp at hq
         subst hq
         exact ⟨_, vs, h1, h2⟩
       · refine (l13DoDrop ps ps[i] sk sx sy i j ps.length ps[i].length P base G cap g c us w rfl (by omega) hi hpi rfl (by omega) (by omega) hqy hui hbP hbase hP hO).mono ?_
         rintro r w' ⟨rfl, vs, h1, h2, h3⟩
         cases hz : qe5 ⟨sk, sx, sy⟩
         · exact ⟨by simp, h3, fun qs hq => by simp at hq⟩
         · refine ⟨by simp, h3, fun qs hq => ?_⟩
           simp at hq
           subst hq
           exact ⟨_, vs, h1, h2⟩
     · have k1 : k ≠ 1 := fun e => hk (.inl e)
       have k2 : k ≠ 2 := fun e => hk (.inr (.inl e))
       have k3 : k ≠ 3 := fun e => hk (.inr (.inr e))
       have hm : jn4 ps k pr a ⟨sk, sx, sy⟩ = none := by
        unfold jn4
        rw [if_neg hk4, hw1, hw2]
        simp [k1, k2, k3]
       rw [hm]
       refine (l13DoNo3 ps k pr a sk sx sy ps.length P base G cap us w rfl (by omega) hp100 hk4 k1 k2 k3 hw1 hw2 hbP hbase hP hO).mono ?_
       rintro r w' ⟨rfl, h3⟩
       exact ⟨rfl, h3, fun qs hq => by cases hq⟩
   · have hf : wiB a (ps.getD pr.toNat []).length = false := by simpa using hw2
     have hm : jn4 ps k pr a ⟨sk, sx, sy⟩ = none := by
      unfold jn4
      rw [if_neg hk4, hf]
      simp
     rw [hm]
     refine (l13DoNo2 ps k pr a sk sx sy ps.length P base G cap us w rfl (by omega) hp100 hk4 hw1 hf hbP hbase hP hO).mono ?_
     rintro r w' ⟨rfl, h3⟩
     exact ⟨rfl, h3, fun qs hq => by cases hq⟩
 · have hf : wiB pr ps.length = false := by simpa using hw1
   have hm : jn4 ps k pr a ⟨sk, sx, sy⟩ = none := by
    unfold jn4
    rw [if_neg hk4, hf]
    simp
   rw [hm]
   refine (l13DoNo1 ps k pr a sk sx sy ps.length P base G cap us w rfl (by omega) hp100 hk4 hf hbP hbase hP hO).mono ?_
   rintro r w' ⟨rfl, h3⟩
   exact ⟨rfl, h3, fun qs hq => by cases hq⟩
theorem own13_form {w : World} {base : Nat} {u : Value} {us : List Value} {ps : List (List Stm)} (h : Own13 w base u us ps) (h0 : 0 < ps.length) : ∃ G cap, u = .slice (some ⟨G, 0, none⟩) ps.length cap := by
 rcases h.row.2 with ⟨_, hn⟩ | ⟨g, cap, cur, rfl, _⟩
 · omega
 · exact ⟨g, cap, rfl⟩
theorem jy4 (ps : List (List Stm)) (e : Edt) (v : Value) (w : World) (hl : ps.length ≤ maxLen) (hp : ∀ p ∈ ps, p.length ≤ maxLen) (hv : jb5 w v ps) :
 Calls Tryz.prog 22 #[.agg #[v], edV e] w fun r w' => ∃ u us, r = .returned (.tuple #[.agg #[u], .bool (jf2 ps e.k e.pr e.a e.s).isSome]) ∧ Own13 w' w.heap.size u us ((jf2 ps e.k e.pr e.a e.s).getD []) ∧ Below w.heap.size w w' := by
 obtain ⟨A, hA⟩ : ∃ A, jf2 ps e.k e.pr e.a e.s = A := ⟨_, rfl⟩
 rw [hA]
 unfold jf2 at hA
 have hpo := ji0 ps v
 obtain ⟨k, pr, a, s⟩ := e
 unfold edV at *
 simp only at hA hpo ⊢
 obtain ⟨ao, vcap, rfl, hcv⟩ := id hv
 clear hcv
 have hdo := fun P base G cap us w h1 => l13Do ps k pr a s P base G cap us w h1
 obtain ⟨sk, sx, sy⟩ := s
 simp only at hdo hA ⊢
 obtain ⟨W0, hW0⟩ : ∃ W0, ((w.alloc (.cells #[.slice ao ps.length vcap] 26)).alloc (.cells #[.int .i64 k, .int .i64 pr, .int .i64 a, .int .i64 sk, .int .i64 sx, .int .i64 sy] 54)).alloc (.cells #[.slice none 0 0] 26) = W0 := ⟨_, rfl⟩
 have b0 : Below w.heap.size w W0 := by rw [← hW0]; go_grown
 have s0 : W0.heap.size = w.heap.size + 3 := by rw [← hW0]; simp
 have H0 : W0.heap[w.heap.size]? = some (.cells #[.slice ao ps.length vcap] 26 (0, 0)) := by rw [← hW0, ja2 (by simp; omega), ja2 (by simp)]; exact heap_alloc_new w _
 have H1 : W0.heap[w.heap.size + 1]? = some (.cells #[.int .i64 k, .int .i64 pr, .int .i64 a, .int .i64 sk, .int .i64 sx, .int .i64 sy] 54 (0, 0)) := by
  rw [← hW0, ja2 (by simp)]
  have := heap_alloc_new (w.alloc (.cells #[.slice ao ps.length vcap] 26)) (.cells #[.int .i64 k, .int .i64 pr, .int .i64 a, .int .i64 sk, .int .i64 sx, .int .i64 sy] 54)
  simpa using this
 have H2 : W0.heap[w.heap.size + 1 + 1]? = some (.cells #[.slice none 0 0] 26 (0, 0)) := by
  rw [← hW0]
  have := heap_alloc_new ((w.alloc (.cells #[.slice ao ps.length vcap] 26)).alloc (.cells #[.int .i64 k, .int .i64 pr, .int .i64 a, .int .i64 sk, .int .i64 sx, .int .i64 sy] 54)) (.cells #[.slice none 0 0] 26)
  simpa using this
 have c0 := (ja4 H0).1
 have hno : ∀ w5 : World, Below W0.heap.size W0 w5 → w5.cell? ⟨w.heap.size + 1 + 1, 0, none⟩ = some (.slice none 0 0) ∧ w5.frozen? ⟨w.heap.size + 1 + 1, 0, none⟩ = false ∧ (w5.setCell ⟨w.heap.size + 1 + 1, 0, none⟩ (.slice none 0 0)).cell? ⟨w.heap.size + 1 + 1, 0, none⟩ = some (.slice none 0 0) ∧ Below w.heap.size w (w5.setCell ⟨w.heap.size + 1 + 1, 0, none⟩ (.slice none 0 0)) := fun w5 hb => by
  have h1 := (hb.block (w.heap.size + 1 + 1) (by omega)).trans H2
  exact ⟨(ja4 h1).1, (ja4 h1).2, (ja4 (jg1 h1 _)).1, (b0.trans (hb.mono b0.size)).setCell (by simp; omega) _⟩
 have HNO : Hid _ := hno
 clear hno
 cases hok : ja5 ps
 · rw [hok] at hA hpo
   simp only [Bool.false_eq_true, if_false] at hA
   subst hA
   go_enter Tryz.func22, Tryz.ntmps22
   go_wp2_with fail
   go_at_call 32
   refine (hpo W0 hl hp (ja0 hv b0)).mono ?_
   rintro r w1 ⟨rfl, b1⟩
   obtain ⟨d0, d1, d2, d3⟩ := HNO.out w1 b1
   have HB : Hid _ := d3
   clear d3 hdo
   go_wp2
   refine bodyPost_ret (v := .tuple #[.agg #[.slice none 0 0], .bool false]) (by simp [results, Tryz.results22, go_sem, d2]) rfl ?_
   exact ⟨_, [], rfl, jn5 _ _, HB.out⟩
 rw [hok] at hA hpo
 simp only [if_true] at hA
 obtain ⟨hl1, hl4, hprc⟩ := progs13 hok
 go_enter Tryz.func22, Tryz.ntmps22
 go_wp2_with fail
 go_at_call 32
 refine (hpo W0 hl hp (ja0 hv b0)).mono ?_
 rintro r w1 ⟨rfl, b1⟩
 have bb := b0.trans (b1.mono b0.size)
 have z1 := b1.size
 have P1 := (b1.block w.heap.size (by omega)).trans H0
 have E1 := (b1.block (w.heap.size + 1) (by omega)).trans H1
 have c1 := (ja4 P1).1
 have hcp := l3Copy ps (.slice ao ps.length vcap) w1 (by omega) (by omega) (fun p hp => by obtain ⟨h1, h2, _⟩ := procs13 (hprc p hp); omega) (ja0 hv bb)
 clear c0
 go_wp2_with fail
 go_at_call 49
 refine hcp.mono ?_
 rintro r w2 ⟨u, us, rfl, OW, b2⟩
 obtain ⟨G, cap, rfl⟩ := own13_form OW (by omega)
 have z2 := b2.size
 have B2 := b1.trans (b2.mono b1.size)
 have b3 : Below w2.heap.size w2 (w2.alloc (.cells #[.slice (some ⟨G, 0, none⟩) ps.length cap] 26)) := by go_grown
 have z3 : (w2.alloc (.cells #[.slice (some ⟨G, 0, none⟩) ps.length cap] 26)).heap.size = w2.heap.size + 1 := by simp
 have Q3 := heap_alloc_new w2 (.cells #[.slice (some ⟨G, 0, none⟩) ps.length cap] 26)
 have E3 := (b3.block (w.heap.size + 1) (by omega)).trans ((b2.block (w.heap.size + 1) (by omega)).trans E1)
 have hdo3 := hdo w2.heap.size w1.heap.size G cap us _ hok (by omega) (by rw [z3]; omega) Q3 (OW.kept b3)
 obtain ⟨bb9, hbb⟩ : ∃ bb9, (jn4 ps k pr a ⟨sk, sx, sy⟩).isSome = bb9 := ⟨_, rfl⟩
 rw [hbb] at hdo3
 obtain ⟨k0, k1, k2⟩ := jk2 E3
 obtain ⟨k3, k4, k5⟩ := jj3 E3
 have B3 := B2.trans (b3.mono B2.size)
 have HB3 : Hid _ := B3
 clear hdo hcp OW c1
 go_wp2_with fail
 go_at_call 50
 refine hdo3.mono ?_
 rintro r w4 ⟨rfl, b4, hq4⟩
 have B4 : Below W0.heap.size W0 w4 := HB3.out.trans (b4.mono (by omega))
 have z4 := b4.size
 have HB4 : Hid _ := B4
 clear hdo3 k0 k1 k2 k3 k4 k5
 cases hm : jn4 ps k pr a ⟨sk, sx, sy⟩ with
 | none =>
  rw [hm] at hA
  subst hA
  obtain ⟨d0, d1, d2, d3⟩ := HNO.out w4 B4
  have HB : Hid _ := d3
  clear d3 hq4
  obtain rfl : bb9 = false := by rw [← hbb, hm]; rfl
  clear hbb
  go_wp2
  refine bodyPost_ret (v := .tuple #[.agg #[.slice none 0 0], .bool false]) (by simp [results, Tryz.results22, go_sem, d2]) rfl ?_
  exact ⟨_, rfl, ⟨[], jn5 _ _⟩, HB.out⟩
 | some qs =>
  rw [hm] at hA
  simp only at hA
  obtain ⟨u, vs, hbx, OQ⟩ := hq4 qs hm
  obtain ⟨q1, q2⟩ := OQ.small
  obtain ⟨ua, um, uc, rfl⟩ := jd4 OQ.row
  have cB := (ja4 hbx).1
  have hpo4 := ji0 qs (.slice ua um uc) w4 q1 q2 (jj1 OQ.ownP)
  have HOQ : Hid (Own13 w4 w1.heap.size (.slice ua um uc) vs qs) := OQ
  clear OQ hq4
  obtain rfl : bb9 = true := by rw [← hbb, hm]; rfl
  clear hbb
  go_wp2_with fail
  go_at_call 32
  refine hpo4.mono ?_
  rintro r w5 ⟨rfl, b5⟩
  have B5 := HB4.out.trans (b5.mono HB4.out.size)
  have Q5 := (b5.block w2.heap.size (by omega)).trans hbx
  have c5 := (ja4 Q5).1
  have HOW5 : Hid (Own13 w5 w1.heap.size (.slice ua um uc) vs qs) := HOQ.out.kept b5
  have HBB : Hid (Below W0.heap.size W0 w5) := B5
  have R5 := (B5.block (w.heap.size + 1 + 1) (by omega)).trans H2
  clear cB hpo4
  cases hq : ja5 qs
  · rw [hq] at hA
    simp only [Bool.false_eq_true, if_false] at hA
    subst hA
    obtain ⟨d0, d1, d2, d3⟩ := HNO.out w5 B5
    have HB : Hid _ := d3
    clear d3
    go_wp2
    refine bodyPost_ret (v := .tuple #[.agg #[.slice none 0 0], .bool false]) (by simp [results, Tryz.results22, go_sem, d2]) rfl ?_
    exact ⟨_, [], rfl, jn5 _ _, HB.out⟩
  · rw [hq] at hA
    simp only [if_true] at hA
    subst hA
    obtain ⟨d0, d1⟩ := ja4 R5
    have d2 := (ja4 (jg1 R5 (.slice ua um uc))).1
    have HF : Hid (Own13 (w5.setCell ⟨w.heap.size + 1 + 1, 0, none⟩ (.slice ua um uc)) w.heap.size (.slice ua um uc) vs qs ∧ Below w.heap.size w (w5.setCell ⟨w.heap.size + 1 + 1, 0, none⟩ (.slice ua um uc))) :=
     ⟨(HOW5.out.grown (jc3 _ _ _ _) (fun k hk => .inl (by have := Option.some.inj hk; omega))).mono (by omega), (b0.trans (HBB.out.mono b0.size)).setCell (by simp; omega) _⟩
    go_wp2
    refine bodyPost_ret (v := .tuple #[.agg #[.slice ua um uc], .bool true]) (by simp [results, Tryz.results22, go_sem, d2]) rfl ?_
    exact ⟨_, vs, rfl, HF.out.1, HF.out.2⟩
end Go.Proofs.YtldagpfeaabcdaaGreatDoor
namespace Go.Proofs.YtldagpfeaabcdaaGreatDoor
open Go.RowKit
set_option linter.unusedVariables false
set_option maxHeartbeats 1000000
structure Marks (base top : Nat) (w w' : World) : Prop where
 os : w'.os = w.os
 tape : w'.tape = w.tape
 output : w'.output = w.output
 size : w.heap.size ≤ w'.heap.size
 out : ∀ k, k < w.heap.size → k < base ∨ top ≤ k → w'.heap[k]? = w.heap[k]?
 other : ∀ (g : Nat) (cur : Array Value) (t : TypeId) (f : Nat × Nat), w.heap[g]? = some (Obj.cells cur t f) → t ≠ 52 → w'.heap[g]? = some (Obj.cells cur t f)
 stm : ∀ (g : Nat) (cur : Array Value), w.heap[g]? = some (Obj.cells cur 52 (0, 0)) → ∃ cur' : Array Value, w'.heap[g]? = some (Obj.cells cur' 52 (0, 0)) ∧ cur'.size = cur.size
theorem Marks.refl (base top : Nat) (w : World) : Marks base top w w := ⟨rfl, rfl, rfl, Nat.le_refl _, fun _ _ _ => rfl, fun _ _ _ _ h _ => h, fun _ cur h => ⟨cur, h, rfl⟩⟩
theorem Marks.trans {base top : Nat} {a b c : World} (h : Marks base top a b) (k : Marks base top b c) : Marks base top a c :=
 ⟨k.os.trans h.os, k.tape.trans h.tape, k.output.trans h.output, Nat.le_trans h.size k.size, fun i hi ho => (k.out i (Nat.lt_of_lt_of_le hi h.size) ho).trans (h.out i hi ho),
  fun g cur t f hg ht => k.other g cur t f (h.other g cur t f hg ht) ht, fun g cur hg => by
   obtain ⟨c1, h1, s1⟩ := h.stm g cur hg
   obtain ⟨c2, h2, s2⟩ := k.stm g c1 h1
   exact ⟨c2, h2, s2.trans s1⟩⟩
theorem Marks.setCell {base top : Nat} {a w : World} (h : Marks base top a w) {g j : Nat} {cur : Array Value} (hg : w.heap[g]? = some (.cells cur 52 (0, 0))) (hb : base ≤ g) (ht : g < top) (u : Value) : Marks base top a (w.setCell ⟨g, j, none⟩ u) := by
 refine h.trans ⟨rfl, rfl, rfl, by simp [World.setCell], fun k _ hk => Below.heap_setCell _ _ _ _ (by simp; omega), fun g' cur' t f hg' ht' => ?_, fun g' cur' hg' => ?_⟩
 · by_cases e : g' = g
   · subst e
     rw [hg] at hg'
     simp at hg'
     exact absurd hg'.2.1.symm ht'
   · rw [Below.heap_setCell _ _ _ _ e]; exact hg'
 · by_cases e : g' = g
   · subst e
     rw [hg] at hg'
     simp only [Option.some.injEq, Obj.cells.injEq] at hg'
     obtain ⟨rfl, _⟩ := hg'
     exact ⟨_, heap_setCell_same w g' j cur _ u hg, by simp⟩
   · exact ⟨cur', by rw [Below.heap_setCell _ _ _ _ e]; exact hg', rfl⟩
theorem Marks.alloc {base top : Nat} {a w : World} (h : Marks base top a w) (o : Obj) : Marks base top a (w.alloc o) := by
 refine h.trans ⟨rfl, rfl, rfl, by simp, fun k hk _ => ja2 hk, fun g cur t f hg _ => ?_, fun g cur hg => ⟨cur, ?_, rfl⟩⟩
 · rw [ja2 (Array.getElem?_eq_some_iff.1 hg).1]; exact hg
 · rw [ja2 (Array.getElem?_eq_some_iff.1 hg).1]; exact hg
def Room (base top : Nat) (w : World) (u : Value) (n : Nat) : Prop :=
 (u = .slice none 0 0 ∧ n = 0) ∨ ∃ (g cap : Nat) (cur : Array Value), u = .slice (some ⟨g, 0, none⟩) n cap ∧ w.heap[g]? = some (Obj.cells cur 52 (0, 0)) ∧ n * 3 ≤ cur.size ∧ base ≤ g ∧ g < top
theorem Room.kept {base top : Nat} {w w' : World} {u : Value} {n : Nat} (h : Room base top w u n) (hm : Marks base top w w') : Room base top w' u n := by
 rcases h with h | ⟨g, cap, cur, rfl, hg, hs, h1, h2⟩
 · exact .inl h
 · obtain ⟨c, hc, hz⟩ := hm.stm g cur hg
   exact .inr ⟨g, cap, c, rfl, hc, by omega, h1, h2⟩
theorem Marks.below {base top B : Nat} {w w' : World} (h : Marks base top w w') (hB : B ≤ base) (hs : B ≤ w.heap.size) : Below B w w' :=
 ⟨h.os, h.tape, h.output, h.size, fun k hk => h.out k (by omega) (.inl (by omega))⟩
end Go.Proofs.YtldagpfeaabcdaaGreatDoor
namespace Go.Proofs.YtldagpfeaabcdaaGreatDoor
open Go.RowKit
set_option linter.unusedVariables false
set_option maxHeartbeats 1000000
end Go.Proofs.YtldagpfeaabcdaaGreatDoor
namespace Go.Proofs.YtldagpfeaabcdaaGreatDoor
open Go.RowKit
set_option linter.unusedVariables false
set_option linter.unusedSimpArgs false
set_option maxHeartbeats 2000000
set_option maxRecDepth 20000
def OtherT (w w' : World) : Prop := ∀ (b : Nat) (C : Array Value) (t : TypeId) (q : Nat × Nat), w.heap[b]? = some (.cells C t q) → t ≠ 52 → w'.heap[b]? = some (.cells C t q)
theorem OtherT.refl (w : World) : OtherT w w := fun _ _ _ _ h _ => h
theorem OtherT.trans {a b c : World} (h : OtherT a b) (k : OtherT b c) : OtherT a c := fun i C t q hi ht => k i C t q (h i C t q hi ht) ht
theorem OtherT.below {a b : World} (h : Below a.heap.size a b) : OtherT a b := fun i C t q hi _ => (h.block i (Array.getElem?_eq_some_iff.1 hi).1).trans hi
theorem OtherT.own {w w' : World} {base n : Nat} {u : Value} {xs : List Value} (h : w.ownsRow base 52 3 u n xs) (hg : w.grownBy w' u.ownBlock) : OtherT w w' := fun i C t q hi ht => by
 refine (hg.block i (Array.getElem?_eq_some_iff.1 hi).1 (fun e => ?_)).trans hi
 rcases h.2 with ⟨rfl, _⟩ | ⟨g, cap, cur, rfl, _, h4, _⟩
 · cases e
 · obtain rfl : i = g := Option.some.inj e
   rw [hi] at h4
   injection h4 with h4
   injection h4 with _ h4
   exact ht h4
theorem jb9 {w : World} {b : Nat} {x0 x1 x2 x3 x4 x5 : Value} {T : TypeId} (h : w.heap[b]? = some (.cells #[x0, x1, x2, x3, x4, x5] T (0, 0))) :
 (w.cell? ⟨b, 0, none⟩ = some x0 ∧ w.cell? ⟨b, 1, none⟩ = some x1 ∧ w.cell? ⟨b, 2, none⟩ = some x2 ∧ w.cell? ⟨b, 3, none⟩ = some x3 ∧ w.cell? ⟨b, 4, none⟩ = some x4 ∧ w.cell? ⟨b, 5, none⟩ = some x5) ∧ ∀ o, w.frozen? ⟨b, o, none⟩ = false := by
 refine ⟨⟨?_, ?_, ?_, ?_, ?_, ?_⟩, fun o => frozen_of_row w b o _ T h⟩ <;> simp [World.cell?, h]
end Go.Proofs.YtldagpfeaabcdaaGreatDoor
