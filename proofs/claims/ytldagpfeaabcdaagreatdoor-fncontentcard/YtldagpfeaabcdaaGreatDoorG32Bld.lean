/-
 Put together out of: CloJ14, ShowM, Bld.
-/
import Derived.Test.YtldagpfeaabcdaaGreatDoorG30CloI14
import Derived.Laws.Pointers
import Derived.Lib.ItoaNum
import Derived.Shelf.Strings.BuilderK
import Derived.Shelf.Strconv.Itoa1
namespace Go.Proofs.YtldagpfeaabcdaaGreatDoor
open Go.RowKit
set_option linter.unusedVariables false
set_option linter.unusedSimpArgs false
set_option maxHeartbeats 4000000
set_option maxRecDepth 20000
theorem came_yes (a b c : Value) (w : World) (P : World → Prop)
 (h : Calls Tryz.prog 30 #[a, b, c] (w.alloc (.cells #[.bool false] 4)) fun e w' => e = .returned (.tuple #[]) ∧ w'.heap[w.heap.size]? = some (.cells #[.bool false] 4 (0, 0)) ∧ P w') :
 Calls Tryz.prog 25 #[.func (.func 30) #[] #[a, b, c]] w fun e w' => e = .returned (.bool true) ∧ ∃ w1, P w1 ∧ w' = (w1.setCell ⟨w.heap.size, 0, none⟩ (.bool true)).setCell ⟨w.heap.size, 0, none⟩ (.bool true) := by
 have hmf : ∀ (fn : Fn) (first cap : Array Value) (w : World), (Instr.makeFunc fn first cap).run Tryz.prog w = .ok (.func fn first cap) w := fun _ _ _ _ => rfl
 go_enter_defers Tryz.func25, Tryz.ntmps25
 go_wp2_with fail
 go_at_call 30
 refine h.mono ?_
 rintro e w1 ⟨rfl, hB, hP⟩
 obtain ⟨c1, f1⟩ := ja4 hB
 have hB2 := jg1 hB (.bool true)
 obtain ⟨c2, f2⟩ := ja4 hB2
 have hB3 := jg1 hB2 (.bool true)
 obtain ⟨c3, f3⟩ := ja4 hB3
 have HP : Hid _ := hP
 clear hP h
 go_wp2
 refine leaves_cons (f := 53) (args := #[.pointer (some ⟨w.heap.size, 0, none⟩)]) (by simp) (by simp [go_sem]) ?_
 refine (qe3 ⟨w.heap.size, 0, none⟩ _ _ c2 f2).mono ?_
 rintro e u' w'' ⟨rfl, rfl, rfl⟩
 refine ⟨.bool true, ?_, rfl, w1, HP.out, rfl⟩
 simp [results, Tryz.results25, go_sem, c3]
theorem came_no (a b c : Value) (w : World) (P : World → Prop)
 (h : Calls Tryz.prog 30 #[a, b, c] (w.alloc (.cells #[.bool false] 4)) fun e w' => e = .panicked [{ v := jm0, recovered := false }] ∧ w'.heap[w.heap.size]? = some (.cells #[.bool false] 4 (0, 0)) ∧ P w') :
 Calls Tryz.prog 25 #[.func (.func 30) #[] #[a, b, c]] w fun e w' => e = .returned (.bool false) ∧ ∃ w1, P w1 ∧ w' = w1.setCell ⟨w.heap.size, 0, none⟩ (.bool false) := by
 have hmf : ∀ (fn : Fn) (first cap : Array Value) (w : World), (Instr.makeFunc fn first cap).run Tryz.prog w = .ok (.func fn first cap) w := fun _ _ _ _ => rfl
 go_enter_defers Tryz.func25, Tryz.ntmps25
 go_wp2_with fail
 go_at_call 30
 refine h.mono ?_
 rintro e w1 ⟨rfl, hB, hP⟩
 obtain ⟨c1, f1⟩ := ja4 hB
 have hB2 := jg1 hB (.bool false)
 obtain ⟨c2, f2⟩ := ja4 hB2
 have HP : Hid _ := hP
 clear hP h
 go_wp2
 refine leaves_cons (f := 53) (args := #[.pointer (some ⟨w.heap.size, 0, none⟩)]) (by simp) (by simp [go_sem]) ?_
 refine (jz0 ⟨w.heap.size, 0, none⟩ _ [] _ c1 f1).mono ?_
 rintro e u' w'' ⟨rfl, rfl, rfl⟩
 refine ⟨.bool false, ?_, rfl, w1, HP.out, rfl⟩
 simp [Leaves, settle, results, Tryz.results25, go_sem, c2]
theorem closure1_yes (ps : List (List Stm)) (i : Int) (v x : Value) (a b c : Nat) (w : World) (hl : ps.length ≤ maxLen) (hp : ∀ p ∈ ps, p.length ≤ maxLen) (hok : hasB ps i = true) (hv : jb5 w v ps)
 (ha : w.heap[a]? = some (.cells #[v] 26 (0, 0))) (hb : w.heap[b]? = some (.cells #[.int .i64 i] 2 (0, 0))) (hc : w.heap[c]? = some (.cells #[x] 26 (0, 0))) :
 Calls Tryz.prog 30 #[.pointer (some ⟨a, 0, none⟩), .pointer (some ⟨b, 0, none⟩), .pointer (some ⟨c, 0, none⟩)] w fun e w' => e = .returned (.tuple #[]) ∧
  ∃ u us, Own13 w' w.heap.size u us (jf7 ps (jg4 ps i)) ∧ w'.heap[c]? = some (.cells #[u] 26 (0, 0)) ∧ w.grownBy w' (some c) := by
 have hcl := closureOf ps i v w hl hp hok hv
 obtain ⟨R, hR⟩ : ∃ R, jf7 ps (jg4 ps i) = R := ⟨_, rfl⟩
 rw [hR] at hcl ⊢
 have c0 := (ja4 ha).1
 have c1 := (ja4 hb).1
 have hcl' := (Array.getElem?_eq_some_iff.1 hc).1
 obtain ⟨ao, vcap, rfl, _⟩ := hv
 clear hR
 go_enter Tryz.func30, Tryz.ntmps30
 go_wp2_with fail
 go_at_call 31
 refine hcl.mono ?_
 rintro e w1 ⟨u, us, rfl, own1, b1⟩
 obtain ⟨ua, um, uc, rfl⟩ := jd4 own1.row
 have hc1 := (b1.block c hcl').trans hc
 obtain ⟨d1, f1⟩ := ja4 hc1
 have HC : Hid _ := jg1 hc1 (.slice ua um uc)
 have HG : Hid (w.grownBy (w1.setCell ⟨c, 0, none⟩ (.slice ua um uc)) (some c)) := ja8 (jb3 b1 _) (jc3 _ _ _ _)
 have HO : Hid (Own13 (w1.setCell ⟨c, 0, none⟩ (.slice ua um uc)) w.heap.size (.slice ua um uc) us R) := own1.grown (jc3 _ _ _ _) (fun k hk => .inl (by have := Option.some.inj hk; omega))
 clear hc1 hcl own1 b1 hc
 go_wp2
 go_end0
 exact ⟨rfl, _, us, HO.out, HC.out, HG.out⟩
theorem closure1_no (ps : List (List Stm)) (i : Int) (v x : Value) (a b c : Nat) (w : World) (hl : ps.length ≤ maxLen) (hp : ∀ p ∈ ps, p.length ≤ maxLen) (hok : hasB ps i = false) (hv : jb5 w v ps)
 (ha : w.heap[a]? = some (.cells #[v] 26 (0, 0))) (hb : w.heap[b]? = some (.cells #[.int .i64 i] 2 (0, 0))) :
 Calls Tryz.prog 30 #[.pointer (some ⟨a, 0, none⟩), .pointer (some ⟨b, 0, none⟩), .pointer (some ⟨c, 0, none⟩)] w fun e w' => e = .panicked [{ v := jm0, recovered := false }] ∧ Below w.heap.size w w' := by
 have hcl := closureOf_no ps i v w hl hp hok hv
 have c0 := (ja4 ha).1
 have c1 := (ja4 hb).1
 obtain ⟨ao, vcap, rfl, _⟩ := hv
 go_enter Tryz.func30, Tryz.ntmps30
 go_wp2_with fail
 go_at_call 31
 refine hcl.mono ?_
 rintro e w1 ⟨rfl, b1⟩
 clear hcl
 go_wp2
 exact ⟨rfl, rfl, b1⟩
theorem ju6 (ps : List (List Stm)) (i : Int) (v : Value) (w : World) (hl : ps.length ≤ maxLen) (hp : ∀ p ∈ ps, p.length ≤ maxLen) (hv : jb5 w v ps) :
 Calls Tryz.prog 8 #[.agg #[v], .int .i64 i] w fun e w' => ∃ u us, e = .returned (.agg #[u]) ∧ Own13 w' w.heap.size u us (cloA ps i) ∧ Below w.heap.size w w' := by
 have hmf : ∀ (fn : Fn) (first cap : Array Value) (w : World), (Instr.makeFunc fn first cap).run Tryz.prog w = .ok (.func fn first cap) w := fun _ _ _ _ => rfl
 obtain ⟨W0, hW0⟩ : ∃ W0, (((w.alloc (.cells #[v] 26)).alloc (.cells #[.int .i64 i] 2)).alloc (.cells #[.slice none 0 0] 26)).alloc (.cells #[.slice none 0 0] 26) = W0 := ⟨_, rfl⟩
 have b0 : Below w.heap.size w W0 := by rw [← hW0]; go_grown
 have s0 : W0.heap.size = w.heap.size + 4 := by rw [← hW0]; simp
 have H0 : W0.heap[w.heap.size]? = some (.cells #[v] 26 (0, 0)) := by
  rw [← hW0, ja2 (by simp <;> omega), ja2 (by simp <;> omega), ja2 (by simp)]; exact heap_alloc_new w _
 have H1 : W0.heap[w.heap.size + 1]? = some (.cells #[.int .i64 i] 2 (0, 0)) := by
  rw [← hW0, ja2 (by simp <;> omega), ja2 (by simp)]
  have := heap_alloc_new (w.alloc (.cells #[v] 26)) (.cells #[.int .i64 i] 2)
  simpa using this
 have H2 : W0.heap[w.heap.size + 1 + 1]? = some (.cells #[.slice none 0 0] 26 (0, 0)) := by
  rw [← hW0, ja2 (by simp)]
  have := heap_alloc_new ((w.alloc (.cells #[v] 26)).alloc (.cells #[.int .i64 i] 2)) (.cells #[.slice none 0 0] 26)
  simpa using this
 have H3 : W0.heap[w.heap.size + 1 + 1 + 1]? = some (.cells #[.slice none 0 0] 26 (0, 0)) := by
  rw [← hW0]
  have := heap_alloc_new (((w.alloc (.cells #[v] 26)).alloc (.cells #[.int .i64 i] 2)).alloc (.cells #[.slice none 0 0] 26)) (.cells #[.slice none 0 0] 26)
  simpa using this
 have bB : Below W0.heap.size W0 (W0.alloc (.cells #[.bool false] 4)) := by go_grown
 have HW0 : Hid _ := hW0
 clear hW0
 cases hok : hasB ps i
 · have hca : cloA ps i = [] := by unfold cloA; rw [hok]; rfl
   rw [hca]
   have h1 := closure1_no ps i v (.slice none 0 0) w.heap.size (w.heap.size + 1) (w.heap.size + 1 + 1 + 1) _ hl hp hok (ja0 (ja0 hv b0) bB) ((bB.block _ (by omega)).trans H0) ((bB.block _ (by omega)).trans H1)
   have h2 := came_no _ _ _ W0 (fun w' => Below W0.heap.size W0 w') (h1.mono (by
    rintro e w' ⟨rfl, b1⟩
    have hz : W0.heap.size < (W0.alloc (.cells #[.bool false] 4)).heap.size := by simp
    exact ⟨rfl, (b1.block _ hz).trans (heap_alloc_new W0 _), jc8 bB b1 (by omega)⟩))
   clear h1 hok hca
   go_enter Tryz.func8, Tryz.ntmps8
   go_wp2_with fail
   rw [HW0.out]
   clear HW0
   go_wp2_with fail
   go_at_call 25
   refine h2.mono ?_
   rintro e w2 ⟨rfl, w1, b1, rfl⟩
   have s1 := b1.size
   have L1 : Below W0.heap.size W0 (w1.setCell ⟨W0.heap.size, 0, none⟩ (.bool false)) := b1.setCell (by simp) _
   have H22 := (L1.block (w.heap.size + 1 + 1) (by omega)).trans H2
   have L2 : Below w.heap.size w (w1.setCell ⟨W0.heap.size, 0, none⟩ (.bool false)) := jc8 b0 L1 (by omega)
   clear h2 b1 L1
   generalize w1.setCell ⟨W0.heap.size, 0, none⟩ (.bool false) = w2 at *
   obtain ⟨d1, f1⟩ := ja4 H22
   have d2 := (ja4 (jg1 H22 (.slice none 0 0))).1
   have HB : Hid (Below w.heap.size w (w2.setCell ⟨w.heap.size + 1 + 1, 0, none⟩ (.slice none 0 0))) := L2.setCell (by simp; omega) _
   go_wp2
   refine bodyPost_ret (v := .agg #[.slice none 0 0]) (by simp [results, Tryz.results8, go_sem, d2]) rfl ?_
   exact ⟨_, [], rfl, jn5 _ _, HB.out⟩
 · have hca : cloA ps i = jf7 ps (jg4 ps i) := by unfold cloA; rw [hok]; rfl
   rw [hca]
   have h1 := closure1_yes ps i v (.slice none 0 0) w.heap.size (w.heap.size + 1) (w.heap.size + 1 + 1 + 1) _ hl hp hok (ja0 (ja0 hv b0) bB) ((bB.block _ (by omega)).trans H0) ((bB.block _ (by omega)).trans H1) ((bB.block _ (by omega)).trans H3)
   obtain ⟨C, hC⟩ : ∃ C, jf7 ps (jg4 ps i) = C := ⟨_, rfl⟩
   rw [hC] at h1 ⊢
   have h2 := came_yes _ _ _ W0 (fun w' => ∃ u us, Own13 w' (W0.heap.size + 1) u us C ∧ w'.heap[w.heap.size + 1 + 1 + 1]? = some (.cells #[u] 26 (0, 0)) ∧ W0.grownBy w' (some (w.heap.size + 1 + 1 + 1))) (h1.mono (by
    rintro e w' ⟨rfl, u, us, o1, hc1, g1⟩
    have hz : (W0.alloc (.cells #[.bool false] 4)).heap.size = W0.heap.size + 1 := by simp
    rw [hz] at o1
    exact ⟨rfl, (g1.block _ (by omega) (by simp; omega)).trans (heap_alloc_new W0 _), u, us, o1, hc1, ja8 (jb3 bB _) g1⟩))
   clear h1 hok hca hC
   go_enter Tryz.func8, Tryz.ntmps8
   go_wp2_with fail
   rw [HW0.out]
   clear HW0
   go_wp2_with fail
   go_at_call 25
   refine h2.mono ?_
   rintro e w2 ⟨rfl, w1, ⟨u, us, o1, hc1, g1⟩, rfl⟩
   have s1 := g1.size
   have o2 : Own13 ((w1.setCell ⟨W0.heap.size, 0, none⟩ (.bool true)).setCell ⟨W0.heap.size, 0, none⟩ (.bool true)) (W0.heap.size + 1) u us C := (o1.grown (jc3 _ _ _ _) (fun k hk => .inl (by have := Option.some.inj hk; omega))).grown (jc3 _ _ _ _) (fun k hk => .inl (by have := Option.some.inj hk; omega))
   have hc2 : ((w1.setCell ⟨W0.heap.size, 0, none⟩ (.bool true)).setCell ⟨W0.heap.size, 0, none⟩ (.bool true)).heap[w.heap.size + 1 + 1 + 1]? = some (.cells #[u] 26 (0, 0)) := (Below.heap_setCell _ _ _ _ (by simp; omega)).trans ((Below.heap_setCell _ _ _ _ (by simp; omega)).trans hc1)
   have hd2 : ((w1.setCell ⟨W0.heap.size, 0, none⟩ (.bool true)).setCell ⟨W0.heap.size, 0, none⟩ (.bool true)).heap[w.heap.size + 1 + 1]? = some (.cells #[.slice none 0 0] 26 (0, 0)) := (Below.heap_setCell _ _ _ _ (by simp; omega)).trans ((Below.heap_setCell _ _ _ _ (by simp; omega)).trans ((g1.block _ (by omega) (by simp)).trans H2))
   have L2 : Below w.heap.size w ((w1.setCell ⟨W0.heap.size, 0, none⟩ (.bool true)).setCell ⟨W0.heap.size, 0, none⟩ (.bool true)) := ((b0.grown g1 (by omega) (fun k hk => by have := Option.some.inj hk; omega)).setCell (by simp; omega) _).setCell (by simp; omega) _
   clear h2 o1 hc1 g1 H0 H1 H2 H3
   generalize (w1.setCell ⟨W0.heap.size, 0, none⟩ (.bool true)).setCell ⟨W0.heap.size, 0, none⟩ (.bool true) = w2 at *
   obtain ⟨ua, um, uc, rfl⟩ := jd4 o2.row
   obtain ⟨d0, _⟩ := ja4 hc2
   obtain ⟨d1, f1⟩ := ja4 hd2
   have d2 := (ja4 (jg1 hd2 (.slice ua um uc))).1
   have HB : Hid (Below w.heap.size w (w2.setCell ⟨w.heap.size + 1 + 1, 0, none⟩ (.slice ua um uc))) := L2.setCell (by simp; omega) _
   have HO : Hid (Own13 (w2.setCell ⟨w.heap.size + 1 + 1, 0, none⟩ (.slice ua um uc)) w.heap.size (.slice ua um uc) us C) := (o2.grown (jc3 _ _ _ _) (fun k hk => .inl (by have := Option.some.inj hk; omega))).mono (by omega)
   clear o2
   go_wp2
   refine bodyPost_ret (v := .agg #[.slice ua um uc]) (by simp [results, Tryz.results8, go_sem, d2]) rfl ?_
   exact ⟨_, us, rfl, HO.out, HB.out⟩
end Go.Proofs.YtldagpfeaabcdaaGreatDoor
namespace Go.Proofs.YtldagpfeaabcdaaGreatDoor
open Go.RowKit
set_option linter.unusedVariables false
set_option linter.unusedSimpArgs false
def jc9 (sep : UInt8) : List (List UInt8) → List UInt8
 | [] => []
 | [x] => x
 | x :: y :: xs => x ++ sep :: jc9 sep (y :: xs)
def ahead (sep : UInt8) (xs : List (List UInt8)) : List UInt8 := if xs.length = 0 then [] else jc9 sep xs ++ [sep]
theorem qh9 (sep : UInt8) : ∀ (xs : List (List UInt8)) (y : List UInt8), jc9 sep (xs ++ [y]) = ahead sep xs ++ y
 | [], y => by simp [jc9, ahead]
 | [x], y => by simp [jc9, ahead]
 | x :: z :: xs, y => by
  have ih := qh9 sep (z :: xs) y
  simp only [List.cons_append] at ih ⊢
  rw [jc9, ih]
  simp [ahead, jc9]
theorem js8 (sep : UInt8) (xs : List (List UInt8)) (j : Nat) (h : j < xs.length) : jc9 sep (xs.take (j + 1)) = ahead sep (xs.take j) ++ xs[j] := by
 rw [List.take_succ_eq_append_getElem h, qh9]
def jm7 (k : Int) : UInt8 :=
 match k.toNat with
 | 1 => 115
 | 2 => 99
 | 3 => 98
 | 4 => 108
 | 5 => 109
 | 6 => 116
 | 7 => 106
 | 8 => 107
 | _ => 114
def dd (n : Int) : List UInt8 := Lib.decDigits n.toNat
def told (s : Stm) : List Int :=
 if s.k = 2 ∨ s.k = 3 then [s.x, s.y] else if s.k = 4 ∨ s.k = 5 ∨ s.k = 6 then [s.x] else if s.k = 7 ∨ s.k = 8 then [s.y] else []
def je9 (s : Stm) : List UInt8 := jm7 s.k :: jc9 44 ((told s).map dd)
def jl6 (p : List Stm) : List UInt8 := jc9 32 (p.map je9)
def showT (ps : List (List Stm)) : List UInt8 := jc9 59 (ps.map jl6)
def jv4 (ps : List (List Stm)) : List UInt8 := if ja5 ps then showT ps else []
theorem dd_len {n : Int} (h0 : 0 ≤ n) (h : n < 100) : (dd n).length ≤ 2 := by
 unfold dd
 rw [Lib.decDigits]
 split
 · simp
 · rw [Lib.decDigits, dif_pos (by omega)]
   simp
theorem jn6 (sep : UInt8) (m : Nat) : ∀ (xs : List (List UInt8)), (∀ x ∈ xs, x.length ≤ m) → (jc9 sep xs).length ≤ xs.length * (m + 1)
 | [], _ => by simp [jc9]
 | [x], h => by
  have := h x (by simp)
  simp [jc9]; omega
 | x :: y :: xs, h => by
  have ih := jn6 sep m (y :: xs) (fun z hz => h z (by simp at hz ⊢; exact .inr hz))
  have := h x (by simp)
  simp only [jc9, List.length_append, List.length_cons] at ih ⊢
  have e1 : (xs.length + 1 + 1) * (m + 1) = (xs.length + 1) * (m + 1) + (m + 1) := Nat.succ_mul _ _
  omega
theorem jo0 {k x y : Int} (h : jd7 k x y = true) : 1 ≤ k ∧ k ≤ 9 ∧ 0 ≤ x ∧ x ≤ 5 ∧ 0 ≤ y ∧ y ≤ 11 := by
 unfold jd7 at h
 simp only [jp0, wiB] at h
 (repeat' split at h) <;> simp at h <;> omega
theorem qd0 {s : Stm} (h : jd7 s.k s.x s.y = true) : (told s).length ≤ 2 ∧ ∀ n ∈ told s, 0 ≤ n ∧ n ≤ 11 := by
 obtain ⟨_, _, h3, h4, h5, h6⟩ := jo0 h
 unfold told
 split
 · exact ⟨by simp, fun n hn => by simp at hn; rcases hn with rfl | rfl <;> omega⟩
 · split
   · exact ⟨by simp, fun n hn => by simp at hn; subst hn; omega⟩
   · split
     · exact ⟨by simp, fun n hn => by simp at hn; subst hn; omega⟩
     · exact ⟨by simp, fun n hn => by simp at hn⟩
theorem jr6 {s : Stm} (h : jd7 s.k s.x s.y = true) : (je9 s).length ≤ 7 := by
 obtain ⟨h1, h2⟩ := qd0 h
 have := jn6 44 2 ((told s).map dd) (fun x hx => by
  obtain ⟨n, hn, rfl⟩ := List.mem_map.1 hx
  have := h2 n hn
  exact dd_len this.1 (by omega))
 unfold je9
 simp only [List.length_cons, List.length_map] at this ⊢
 omega
theorem procT_len {p : List Stm} (hl : p.length ≤ 12) (h : ∀ s ∈ p, jd7 s.k s.x s.y = true) : (jl6 p).length ≤ 96 := by
 have := jn6 32 7 (p.map je9) (fun x hx => by
  obtain ⟨s, hs, rfl⟩ := List.mem_map.1 hx
  exact jr6 (h s hs))
 unfold jl6
 simp only [List.length_map] at this
 omega
end Go.Proofs.YtldagpfeaabcdaaGreatDoor
namespace Go.Proofs.YtldagpfeaabcdaaGreatDoor
open Go.RowKit Go.Shelf
set_option linter.unusedVariables false
set_option linter.unusedSimpArgs false
set_option maxHeartbeats 4000000
set_option maxRecDepth 100000
def StopBld (p : Prop) : Prop := p
theorem stopBld {p : Prop} (h : StopBld p) : p := h
def Bld (b : Nat) (l : List UInt8) (w : World) : Prop := Lib.IsBuilderF 94 5 b b (Lib.byteCells l) w
def Wrote (b : Nat) (w w' : World) : Prop := Below b w w' ∧ Lib.OthersKept 5 (some b) w w'
theorem Wrote.refl (b : Nat) (w : World) : Wrote b w w := ⟨Below.refl _ _, Lib.OthersKept.refl _ _ _⟩
theorem Wrote.trans {b : Nat} {w w1 w2 : World} (h : Wrote b w w1) (k : Wrote b w1 w2) : Wrote b w w2 := ⟨h.1.trans k.1, h.2.trans k.2⟩
def strRen : Go.Shelf.Ren := ⟨fun | 169 => 63 | n => n, fun | 70 => 92 | 9 => 9 | 0 => 0 | 72 => 94 | 37 => 22 | 127 => 125 | 3 => 3 | 5 => 5 | n => n, fun | n => n⟩
theorem strLays : Go.Proofs.Lays.n169 Tryz.prog strRen := {
 mixed := by kernel_rfl
 f169 := Tryz.func63.trans (congrArg some (by kernel_rfl))
 t0 := Tryz.underlying0
 a0 := Tryz.isAgg0
 z0 := Tryz.sizeOf0
 v0 := Tryz.zeroValue0
 t3 := Tryz.underlying3
 a3 := Tryz.isAgg3
 z3 := Tryz.sizeOf3
 v3 := Tryz.zeroValue3
 t9 := Tryz.underlying9
 a9 := Tryz.isAgg9
 z9 := Tryz.sizeOf9
 v9 := Tryz.zeroValue9
 t37 := Tryz.underlying22
 a37 := Tryz.isAgg22
 z37 := Tryz.sizeOf22
 v37 := Tryz.zeroValue22
 t70 := Tryz.underlying92
 a70 := Tryz.isAgg92
 z70 := Tryz.sizeOf92
 v70 := Tryz.zeroValue92
 t72 := Tryz.underlying94
 a72 := Tryz.isAgg94
 z72 := Tryz.sizeOf94
 v72 := Tryz.zeroValue94
 t127 := Tryz.underlying125
 a127 := Tryz.isAgg125
 z127 := Tryz.sizeOf125
 v127 := Tryz.zeroValue125 }
theorem strExtra : Builder.Extra Tryz.prog strRen := {
 sizeBuilder := by kernel_rfl
 liesBuilder := by kernel_rfl
 t5 := Tryz.underlying5
 a5 := Tryz.isAgg5
 z5 := Tryz.sizeOf5
 v5 := Tryz.zeroValue5
 infoByte := by kernel_rfl
 cellsByte := by kernel_rfl
 sizeByte := by kernel_rfl
 neB5 := by decide }
theorem bldString (b : Nat) (l : List UInt8) (w : World) (h : Bld b l w) (hb : b ≤ w.heap.size) :
 Calls Tryz.prog 63 #[.pointer (some ⟨b, 0, none⟩)] w fun e w' => e = .returned (.string ⟨l.toArray⟩) ∧ Below b w w' :=
 (Any.Builder_String_any_k strLays strExtra b b l w h hb).mono (fun e w' ⟨h1, _, h3, _⟩ => ⟨h1, h3⟩)
def smallRen : Go.Shelf.Ren := ⟨fun | 283 => 101 | n => n, fun | 3 => 3 | 9 => 9 | 4 => 4 | n => n, fun | n => n⟩
theorem smallLays : Go.Proofs.Lays.n283 Tryz.prog smallRen := {
 mixed := by kernel_rfl
 f283 := Tryz.func101.trans (congrArg some (by kernel_rfl))
 t3 := Tryz.underlying3
 a3 := Tryz.isAgg3
 z3 := Tryz.sizeOf3
 v3 := Tryz.zeroValue3
 t4 := Tryz.underlying4
 a4 := Tryz.isAgg4
 z4 := Tryz.sizeOf4
 v4 := Tryz.zeroValue4
 t9 := Tryz.underlying9
 a9 := Tryz.isAgg9
 z9 := Tryz.sizeOf9
 v9 := Tryz.zeroValue9 }
theorem small (i : Nat) (h : i < 100) (w : World) : Calls Tryz.prog 101 #[.int .i64 i] w fun e w' => e = .returned (.string ⟨(Lib.decDigits i).toArray⟩) ∧ w' = w := Any.internal_strconv_small smallLays i h w
theorem formatInner (i : Nat) (h : i < 100) (w : World) : Calls Tryz.prog 92 #[.int .i64 i, .int .i64 10] w fun e w' => e = .returned (.string ⟨(Lib.decDigits i).toArray⟩) ∧ w' = w := by
 have h1 : (0 : Int) ≤ (i : Int) := by omega
 have h2 : (i : Int) < 100 := by omega
 go_enter Tryz.func92, Tryz.ntmps92
 go_wp2_with (go_at_call 101; refine (small i h _).mono ?_; rintro e w1 ⟨rfl, rfl⟩)
 go_ret
 exact ⟨rfl, rfl⟩
theorem formatInt (i : Nat) (h : i < 100) (w : World) : Calls Tryz.prog 83 #[.int .i64 i, .int .i64 10] w fun e w' => e = .returned (.string ⟨(Lib.decDigits i).toArray⟩) ∧ w' = w := by
 go_enter Tryz.func83, Tryz.ntmps83
 go_wp2_with (go_at_call 92; refine (formatInner i h _).mono ?_; rintro e w1 ⟨rfl, rfl⟩)
 go_ret
 exact ⟨rfl, rfl⟩
theorem copyUsed (b : Nat) (w : World) (h0 : w.cell? ⟨b, 0, none⟩ = some (.pointer (some ⟨b, 0, none⟩))) :
 Calls Tryz.prog 91 #[.pointer (some ⟨b, 0, none⟩)] w fun e w' => e = .returned (.tuple #[]) ∧ w' = w := by
 obtain ⟨j, hj, hjs⟩ := Option.map_eq_some_iff.1 strExtra.sizeBuilder
 have heq := Lib.run_neq_ptr_same (P := Tryz.prog) w ⟨b, 0, none⟩ Tryz.underlying92 hj
 go_enter Tryz.func91, Tryz.ntmps91
 go_wp2
 go_end0
 exact ⟨rfl, rfl⟩
theorem copyFresh (b : Nat) (w : World) (h0 : w.cell? ⟨b, 0, none⟩ = some (.pointer none)) (hsh : w.shape? b = some (94, 2)) (hfz : w.frozen? ⟨b, 0, none⟩ = false) :
 Calls Tryz.prog 91 #[.pointer (some ⟨b, 0, none⟩)] w fun e w' => e = .returned (.tuple #[]) ∧ w' = w.setCell ⟨b, 0, none⟩ (.pointer (some ⟨b, 0, none⟩)) := by
 obtain ⟨j, hj, hjs⟩ := Option.map_eq_some_iff.1 strExtra.sizeBuilder
 have h1 := Lib.run_to_unsafe (P := Tryz.prog) w ⟨b, 0, none⟩ Tryz.underlying92 Tryz.underlying140 hj (by rw [hjs]; decide) hsh (Nat.zero_lt_succ 1)
 have h3 := Lib.run_from_unsafe (P := Tryz.prog) w ⟨b, 0, none⟩ Tryz.underlying140 Tryz.underlying92 hj hsh strExtra.liesBuilder
 go_enter Tryz.func91, Tryz.ntmps91
 go_wp2
 rw [run_callFunc_extern Tryz.func100 (by kernel_rfl) (by kernel_rfl) (by kernel_rfl) (e := Extern.AbiNoEscape.same) (by kernel_rfl)]
 rw [Lib.run_noEscape]
 simp only [Result.andThen]
 rw [Oper.upon_value]
 go_wp2
 go_end0
 exact ⟨rfl, rfl⟩
theorem copyCheck (b : Nat) (l : List UInt8) (w : World) (h : Bld b l w) :
 Calls Tryz.prog 91 #[.pointer (some ⟨b, 0, none⟩)] w fun e w' => e = .returned (.tuple #[]) ∧ Lib.BuilderAtF 94 5 b b (.pointer (some ⟨b, 0, none⟩)) (Lib.byteCells l) w' ∧ Wrote b w w' := by
 rcases h with h | h
 · refine (copyFresh b w h.cell0 h.shape h.frozen0).mono ?_
   rintro e w' ⟨rfl, rfl⟩
   exact ⟨rfl, h.used _, (Below.refl b w).setCell (Nat.le_refl _) _, (Lib.OthersKept.refl _ _ w).setCell ⟨b, 0, none⟩ rfl _⟩
 · refine (copyUsed b w h.cell0).mono ?_
   rintro e w' ⟨rfl, rfl⟩
   exact ⟨rfl, h, Wrote.refl _ _⟩
theorem infoByte : (Tryz.prog.info? 5).map (fun i => (i.zero, i.size, i.bytes)) = some (some (.int .u8 0), 1, 1) := by kernel_rfl
theorem bldByte (b : Nat) (l : List UInt8) (c : UInt8) (w : World) (h : Bld b l w) (hlen : l.length ≤ 1000000) (hb : b < w.heap.size) :
 Calls Tryz.prog 80 #[.pointer (some ⟨b, 0, none⟩), .int .u8 c.toNat] w fun e w' => e = .returned .nilIface ∧ Bld b (l ++ [c]) w' ∧ Wrote b w w' := by
 obtain ⟨i0, hi, hz0, hz1, hz2⟩ := info_parts infoByte
 have hcc := copyCheck b l w h
 go_enter Tryz.func80, Tryz.ntmps80
 go_wp2_with fail
 go_at_call 91
 refine hcc.mono ?_
 rintro e w1 ⟨rfl, ⟨_, v, hbk, hown, hne⟩, hb1, hk1⟩
 have s1 := hb1.size
 have c0 : w1.cell? ⟨b, 0, none⟩ = some (.pointer (some ⟨b, 0, none⟩)) := by rw [Lib.cell_of_heap hbk]; rfl
 have c1 : w1.cell? ⟨b, 1, none⟩ = some v := by rw [Lib.cell_of_heap hbk]; rfl
 have hlt : b < w1.heap.size := (Array.getElem?_eq_some_iff.1 hbk).1
 have hll := Lib.byteCells_length l
 have hnew : ∀ (j : Nat) (u : Value), [Value.int .u8 (c.toNat : Int)][j]? = some u → (w1.alloc (.cells #[.int .u8 (c.toNat : Int)] 5)).cell? ((⟨w1.heap.size, 0, none⟩ : Addr).add j) = some u := by
  intro j u hj
  match j, hj with
  | 0, hj => simp at hj; subst hj; simp [Addr.add]
 clear hcc
 go_wp2_with (at_builtin; refine wpList_append_ownF _ rfl (.tmp 11) (.tmp 13) 22 rfl b 5 i0 (.int .u8 0) 1 1 Tryz.underlying22 hi hz0 hz1 hz2 rfl (by decide) _ _ _ rfl (World.ownsRowF.alloc hown _) ⟨w1.heap.size, 0, none⟩ 1 1 [.int .u8 (c.toNat : Int)] rfl rfl hnew (by simp [Value.oneCell']) (by unfold maxLen; omega) (by omega) (by simp; omega) ?_; intro v2 w2 hown2 hgrow _; refine stopBld ?_)
 have hb2 : w2.heap[b]? = some (.cells #[.pointer (some ⟨b, 0, none⟩), v] 94 (0, 0)) := by
  rw [hgrow.block b (by simp; omega) (fun e => hne e.symm), ja2 hlt]
  exact hbk
 have d0 : w2.cell? ⟨b, 0, none⟩ = some (.pointer (some ⟨b, 0, none⟩)) := by rw [Lib.cell_of_heap hb2]; rfl
 have d1 : w2.cell? ⟨b, 1, none⟩ = some v := by rw [Lib.cell_of_heap hb2]; rfl
 have f1 : w2.frozen? ⟨b, 1, none⟩ = false := Lib.frozen_of_heap hb2 1
 obtain ⟨g, cap, rfl⟩ : ∃ g cap, v2 = .slice (some ⟨g, 0, none⟩) ((Lib.byteCells l).length + 1) cap := by
  rcases hown2.2 with ⟨_, h0⟩ | ⟨g, cap, cur, fz, hv, _⟩
  · omega
  · exact ⟨g, cap, hv⟩
 have HBL : Hid (Bld b (l ++ [c]) (w2.setCell ⟨b, 1, none⟩ (.slice (some ⟨g, 0, none⟩) ((Lib.byteCells l).length + 1) cap))) := by
  refine .inr (Lib.BuilderAtF.put (Nat.le_refl _) hb2 ?_ (by decide))
  have h5 := hown2
  simp [Lib.byteCells] at h5 ⊢
  exact h5
 have HW : Hid (Wrote b w (w2.setCell ⟨b, 1, none⟩ (.slice (some ⟨g, 0, none⟩) ((Lib.byteCells l).length + 1) cap))) := by
  refine ⟨((hb1.alloc (by omega) _).grown hgrow (by simp; omega) (fun k hk => (hown.lt k hk).1)).setCell (by simp) _, ((hk1.alloc _).grown hgrow (Lib.ownsRowF_kind (World.ownsRowF.alloc hown _))).setCell ⟨b, 1, none⟩ rfl _⟩
 clear hown2 hown hnew hll
 unfold StopBld
 go_wp2
 go_ret
 exact ⟨rfl, HBL.out, HW.out⟩
theorem bldText (b : Nat) (l t : List UInt8) (w : World) (h : Bld b l w) (hlen : l.length ≤ 1000000) (htl : t.length ≤ 1000000) (hb : b < w.heap.size) :
 Calls Tryz.prog 82 #[.pointer (some ⟨b, 0, none⟩), .string ⟨t.toArray⟩] w fun e w' => e = .returned (.tuple #[.int .i64 t.length, .nilIface]) ∧ Bld b (l ++ t) w' ∧ Wrote b w w' := by
 obtain ⟨i0, hi, hz0, hz1, hz2⟩ := info_parts infoByte
 have hcc := copyCheck b l w h
 have hts : (⟨t.toArray⟩ : ByteArray).size = t.length := by simp [ByteArray.size]
 have htc : Lib.strCells ⟨t.toArray⟩ = Lib.byteCells t := by simp [Lib.strCells, Lib.byteCells]
 go_enter Tryz.func82, Tryz.ntmps82
 go_wp2_with fail
 go_at_call 91
 refine hcc.mono ?_
 rintro e w1 ⟨rfl, ⟨_, v, hbk, hown, hne⟩, hb1, hk1⟩
 have s1 := hb1.size
 have c0 : w1.cell? ⟨b, 0, none⟩ = some (.pointer (some ⟨b, 0, none⟩)) := by rw [Lib.cell_of_heap hbk]; rfl
 have c1 : w1.cell? ⟨b, 1, none⟩ = some v := by rw [Lib.cell_of_heap hbk]; rfl
 have hlt : b < w1.heap.size := (Array.getElem?_eq_some_iff.1 hbk).1
 have hll := Lib.byteCells_length l
 clear hcc
 go_wp2_with (at_builtin; refine Lib.wpList_append_own_stringF _ rfl (.tmp 12) (.tmp 13) 22 9 rfl b 5 i0 Tryz.underlying22 Tryz.underlying9 hi hz0 hz1 hz2 _ _ _ rfl hown ⟨t.toArray⟩ rfl (by rw [hts]; unfold maxLen; omega) (by rw [hts]; omega) (by omega) ?_; intro v2 w2 hown2 hgrow _; refine stopBld ?_)
 have hb2 : w2.heap[b]? = some (.cells #[.pointer (some ⟨b, 0, none⟩), v] 94 (0, 0)) := by
  rw [hgrow.block b hlt (fun e => hne e.symm)]
  exact hbk
 have d0 : w2.cell? ⟨b, 0, none⟩ = some (.pointer (some ⟨b, 0, none⟩)) := by rw [Lib.cell_of_heap hb2]; rfl
 have d1 : w2.cell? ⟨b, 1, none⟩ = some v := by rw [Lib.cell_of_heap hb2]; rfl
 have f1 : w2.frozen? ⟨b, 1, none⟩ = false := Lib.frozen_of_heap hb2 1
 obtain ⟨ao, n', cap, rfl⟩ : ∃ ao n' cap, v2 = .slice ao n' cap := by
  rcases hown2.2 with ⟨hv, _⟩ | ⟨g, cap, cur, fz, hv, _⟩
  · exact ⟨_, _, _, hv⟩
  · exact ⟨_, _, _, hv⟩
 have HBL : Hid (Bld b (l ++ t) (w2.setCell ⟨b, 1, none⟩ (.slice ao n' cap))) := by
  refine .inr (Lib.BuilderAtF.put (Nat.le_refl _) hb2 ?_ (by decide))
  have h5 := hown2
  rw [htc] at h5
  have e5 : Lib.byteCells (l ++ t) = Lib.byteCells l ++ Lib.byteCells t := by simp [Lib.byteCells]
  rw [e5, List.length_append]
  rw [hts] at h5
  rw [Lib.byteCells_length t]
  exact h5
 have HW : Hid (Wrote b w (w2.setCell ⟨b, 1, none⟩ (.slice ao n' cap))) := by
  refine ⟨(hb1.grown hgrow (by omega) (fun k hk => (hown.lt k hk).1)).setCell (by simp) _, (hk1.grown hgrow (Lib.ownsRowF_kind hown)).setCell ⟨b, 1, none⟩ rfl _⟩
 clear hown2 hown
 unfold StopBld
 go_wp2
 go_ret2
 exact ⟨rfl, HBL.out, HW.out⟩
end Go.Proofs.YtldagpfeaabcdaaGreatDoor
