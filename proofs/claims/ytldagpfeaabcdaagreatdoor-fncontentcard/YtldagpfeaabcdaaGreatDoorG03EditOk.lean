/-
 Put together out of: EditM, Spl, Spl2, Cloned, EqT, EditOk.
-/
import Derived.Test.YtldagpfeaabcdaaGreatDoorG02ProgOk
import Derived.ArgAppend
namespace Go.Proofs.YtldagpfeaabcdaaGreatDoor
open Go.RowKit
set_option linter.unusedVariables false
def jmp (b d : Int) (s : Stm) : Stm := if s.k = 7 ∧ b ≤ s.y then ⟨s.k, s.x, s.y + d⟩ else s
def mv (b d : Int) (p : List Stm) : List Stm := p.map (jmp b d)
def je6 (b d : Int) (p : List Stm) (j : Nat) : List Stm := (p.take j).map (jmp b d) ++ p.drop j
theorem qe1 (b d : Int) (p : List Stm) : je6 b d p 0 = p := by simp [je6]
theorem qg2 (b d : Int) (p : List Stm) : je6 b d p p.length = mv b d p := by simp [je6, mv]
theorem jp8 (b d : Int) (p : List Stm) (j : Nat) (h : j ≤ p.length) : (je6 b d p j).length = p.length := by simp [je6]; omega
theorem jy7 (b d : Int) (p : List Stm) (j : Nat) (h : j < p.length) : (je6 b d p j)[j]? = some p[j] := by
 unfold je6
 rw [List.getElem?_append_right (by simp; omega)]
 simp
 have : j - min j p.length = 0 := by omega
 rw [this]
 simp [h]
theorem ju1 (b d : Int) (p : List Stm) (j : Nat) (h : j < p.length) : je6 b d p (j + 1) = (je6 b d p j).set j (jmp b d p[j]) := by
 unfold je6
 have hj : (List.map (jmp b d) (p.take j)).length = j := by simp; omega
 rw [List.set_append_right _ _ (by omega), hj, Nat.sub_self, List.drop_eq_getElem_cons h, List.set_cons_zero, List.take_succ_eq_append_getElem h, List.map_append, List.append_assoc]
 rfl
theorem qc7 (b d : Int) (p : List Stm) (j : Nat) (h : j < p.length) (hj : jmp b d p[j] = p[j]) : je6 b d p (j + 1) = je6 b d p j := by
 rw [ju1 b d p j h, hj]
 refine List.ext_getElem? (fun i => ?_)
 by_cases e : j = i
 · subst e
   rw [List.getElem?_set_self (by rw [jp8 _ _ _ _ (by omega)]; exact h), jy7 b d p j h]
 · rw [List.getElem?_set_ne e]
theorem jo1 : ∀ (L : List Stm) (j : Nat) (s : Stm) (y : Int), L[j]? = some s → (ja3 L).set (j * 3 + 2) (.int .i64 y) = ja3 (L.set j ⟨s.k, s.x, y⟩)
 | [], j, s, y, h => by simp at h
 | t :: L, 0, s, y, h => by simp at h; subst h; rfl
 | t :: L, j + 1, s, y, h => by
  have ih := jo1 L j s y (by simpa using h)
  have e : (j + 1) * 3 + 2 = j * 3 + 2 + 1 + 1 + 1 := by omega
  rw [e]
  simp only [ja3, List.set_cons_succ, ih]
theorem jmp_yes {b d : Int} {s : Stm} (h : s.k = 7) (h2 : b ≤ s.y) : jmp b d s = ⟨s.k, s.x, s.y + d⟩ := if_pos ⟨h, h2⟩
theorem jmp_no {b d : Int} {s : Stm} (h : ¬ (s.k = 7 ∧ b ≤ s.y)) : jmp b d s = s := if_neg h
theorem mv_length (b d : Int) (p : List Stm) : (mv b d p).length = p.length := by simp [mv]
def edSet (p : List Stm) (a : Nat) (s : Stm) : List Stm := p.take a ++ s :: p.drop (a + 1)
def jq8 (p : List Stm) (a : Nat) (s : Stm) : List Stm := (mv a 1 p).take a ++ s :: (mv a 1 p).drop a
def jp3 (p : List Stm) (a : Nat) : List Stm := (mv (a + 1) (-1) p).take a ++ (mv (a + 1) (-1) p).drop (a + 1)
def qe5 (s : Stm) : Bool := decide (s.k = 0) && decide (s.x = 0) && decide (s.y = 0)
def jn4 (ps : List (List Stm)) (k pr at_ : Int) (s : Stm) : Option (List (List Stm)) :=
 if k = 4 then (if pr = 0 ∧ at_ = 0 ∧ qe5 s = true then some (ps ++ [[⟨9, 0, 0⟩]]) else none)
 else if wiB pr ps.length && wiB at_ (ps.getD pr.toNat []).length then
  (if k = 1 then some (ps.set pr.toNat (edSet (ps.getD pr.toNat []) at_.toNat s))
   else if k = 2 then some (ps.set pr.toNat (jq8 (ps.getD pr.toNat []) at_.toNat s))
   else if k = 3 then (if qe5 s then some (ps.set pr.toNat (jp3 (ps.getD pr.toNat []) at_.toNat)) else none)
   else none)
 else none
def jf2 (ps : List (List Stm)) (k pr at_ : Int) (s : Stm) : Option (List (List Stm)) :=
 if ja5 ps then (match jn4 ps k pr at_ s with
  | some qs => if ja5 qs then some qs else none
  | none => none) else none
def Apart13 (us : List Value) : Prop := ∀ (i j : Nat) (a b : Value) (k : Nat), i ≠ j → us[i]? = some a → us[j]? = some b → a.ownBlock = some k → b.ownBlock ≠ some k
structure Own13 (w : World) (base : Nat) (v : Value) (us : List Value) (ps : List (List Stm)) : Prop where
 row : w.ownsRow base 63 1 v ps.length us
 each : ∀ (j : Nat) (u : Value) (p : List Stm), us[j]? = some u → ps[j]? = some p → w.ownsRow base 52 3 u p.length (ja3 p)
 ap : Apart13 us
theorem Own13.len {w : World} {base : Nat} {v : Value} {us : List Value} {ps : List (List Stm)} (h : Own13 w base v us ps) : us.length = ps.length := by
 have := h.row.1
 simpa using this
theorem Own13.ownP {w : World} {base : Nat} {v : Value} {us : List Value} {ps : List (List Stm)} (h : Own13 w base v us ps) : OwnP w base w.heap.size v ps :=
 ⟨us, h.row, fun k hk => (h.row.lt k hk).2, fun j u p h1 h2 => ⟨h.each j u p h1 h2, fun k hk => ((h.each j u p h1 h2).lt k hk).2⟩⟩
theorem Own13.kept {w w' : World} {base : Nat} {v : Value} {us : List Value} {ps : List (List Stm)} (h : Own13 w base v us ps) (hb : Below w.heap.size w w') : Own13 w' base v us ps :=
 ⟨jc0 h.row hb, fun j u p h1 h2 => jc0 (h.each j u p h1 h2) hb, h.ap⟩
theorem Own13.mono {w : World} {base base' : Nat} {v : Value} {us : List Value} {ps : List (List Stm)} (h : Own13 w base v us ps) (hb : base' ≤ base) : Own13 w base' v us ps :=
 ⟨jc4 h.row hb, fun j u p h1 h2 => jc4 (h.each j u p h1 h2) hb, h.ap⟩
theorem Own13.grown {w w' : World} {base : Nat} {v : Value} {us : List Value} {ps : List (List Stm)} {row : Option Nat} (h : Own13 w base v us ps) (hg : w.grownBy w' row) (hr : ∀ k, row = some k → k < base ∨ ∃ C t q, w.heap[k]? = some (.cells C t q) ∧ t ≠ 63 ∧ t ≠ 52) : Own13 w' base v us ps := by
 have ne : ∀ {e : TypeId} {s n : Nat} {x : Value} {xs : List Value}, w.ownsRow base e s x n xs → (e = 63 ∨ e = 52) → ∀ k, x.ownBlock = some k → row ≠ some k := by
  intro e s n x xs hx he k hk hrow
  rcases hr k hrow with h1 | ⟨C, t, q, h1, h2, h3⟩
  · have := (hx.lt k hk).1; omega
  · rcases hx.2 with ⟨rfl, _⟩ | ⟨g', cap', cur, rfl, _, h4, _⟩
    · cases hk
    · cases hk
      rw [h1] at h4
      injection h4 with h4
      injection h4 with _ h4
      rcases he with rfl | rfl
      · exact h2 h4
      · exact h3 h4
 exact ⟨jd5 h.row hg (ne h.row (.inl rfl)), fun j u p h1 h2 => jd5 (h.each j u p h1 h2) hg (ne (h.each j u p h1 h2) (.inr rfl)), h.ap⟩
end Go.Proofs.YtldagpfeaabcdaaGreatDoor
namespace Go.Proofs.YtldagpfeaabcdaaGreatDoor
open Go.RowKit
set_option linter.unusedVariables false
set_option linter.unusedSimpArgs false
set_option maxHeartbeats 4000000
set_option maxRecDepth 20000
theorem jc3 (w : World) (b o : Nat) (v : Value) : w.grownBy (w.setCell ⟨b, o, none⟩ v) (some b) :=
 ⟨rfl, rfl, rfl, by simp [World.setCell], fun k _ hk => Below.heap_setCell w ⟨b, o, none⟩ v k (fun e => hk (by rw [e]))⟩
end Go.Proofs.YtldagpfeaabcdaaGreatDoor
namespace Go.Proofs.YtldagpfeaabcdaaGreatDoor
open Go.RowKit
set_option linter.unusedVariables false
set_option linter.unusedSimpArgs false
set_option maxHeartbeats 4000000
set_option maxRecDepth 20000
theorem cloneStmts (p : List Stm) (v : Value) (w : World) (h0 : 0 < p.length) (hl : p.length ≤ 100) (hv : jk5 w v p) :
 Calls Tryz.prog 76 #[v] w fun e w' => ∃ g cap, e = .returned (.slice (some ⟨g, 0, none⟩) p.length cap) ∧ w'.ownsRow w.heap.size 52 3 (.slice (some ⟨g, 0, none⟩) p.length cap) p.length (ja3 p) ∧ Below w.heap.size w w' := by
 obtain ⟨i0, hi, hz0, hz1, hz2⟩ := info_parts js1
 obtain ⟨ao, cap, rfl, hc⟩ := hv
 obtain ⟨g, off, rfl, _⟩ := hc 0 p[0] (by simp [h0])
 have hcs : Hid (∀ j u, (ja3 p)[j]? = some u → (w.alloc (.cells #[] 52)).cell? ((⟨g, off, none⟩ : Addr).add j) = some u) := by
  intro j u hu
  have hjl := (List.getElem?_eq_some_iff.1 hu).1
  rw [je0] at hjl
  obtain ⟨g', off', e, q0, q1, q2⟩ := hc (j / 3) p[j / 3] (by simp)
  simp only [Option.some.injEq, Addr.mk.injEq, and_true] at e
  obtain ⟨rfl, rfl⟩ := e
  obtain ⟨a0, a1, a2⟩ := jk7 p (j / 3) p[j / 3] (by simp)
  rw [Addr.add_lit]
  have hB := World.block_lt_of_cell? w _ q0
  have hbb : Below w.heap.size w (w.alloc (.cells #[] 52)) := Below.alloc (Below.refl _ w) (Nat.le_refl _) _
  have key : w.cell? ⟨g, off + j, none⟩ = some u := by
   rcases (by omega : j % 3 = 0 ∨ j % 3 = 1 ∨ j % 3 = 2) with h | h | h
   · have ej : j = j / 3 * 3 := by omega
     rw [← ej] at a0 q0
     rw [hu] at a0
     rw [q0, a0]
   · have ej : j = j / 3 * 3 + 1 := by omega
     rw [← ej] at a1
     rw [Nat.add_assoc, ← ej] at q1
     rw [hu] at a1
     rw [q1, a1]
   · have ej : j = j / 3 * 3 + 2 := by omega
     rw [← ej] at a2
     rw [Nat.add_assoc, ← ej] at q2
     rw [hu] at a2
     rw [q2, a2]
  exact (hbb.cell (p := ⟨g, off + j, none⟩) hB).trans key
 have heq : ∀ (W : World) (A : Addr) (n c : Nat), (binOp .eql 61 (.slice (some A) n c) (.slice none 0 0)).run Tryz.prog W = .ok (.bool false) W := fun _ _ _ _ => rfl
 have m0 : (w.alloc (.cells #[] 52)).ownsRow w.heap.size 52 3 (.slice (some ⟨w.heap.size, 0, none⟩) 0 0) 0 [] := World.ownsRow_made w #[] 0 (Nat.le_refl _) (by unfold maxLen; omega) rfl
 have B0 : Below w.heap.size w (w.alloc (.cells #[] 52)) := by go_grown
 clear hc
 go_enter Tryz.func76, Tryz.ntmps76
 go_wp2_with (first
  | (at_builtin; refine wpList_append_own _ rfl (.tmp 5) (.tmp 6) 61 rfl w.heap.size 52 i0 (.agg #[.int .i64 0, .int .i64 0, .int .i64 0]) 3 24 Tryz.underlying61 hi hz0 hz1 hz2 rfl (by decide) _ 0 [] rfl m0 ⟨g, off, none⟩ p.length _ (ja3 p) rfl (je0 p) hcs.out (je4 p) (by unfold maxLen; omega) (by omega) (by simp) ?_; intro v2 w2 own2 grow2 _)
  | go_in)
 have L2 : Below w.heap.size w w2 := B0.grown grow2 B0.size (fun q hq => Nat.le_of_eq (Option.some.inj (show some w.heap.size = some q from hq)))
 have own3 : w2.ownsRow w.heap.size 52 3 v2 p.length (ja3 p) := by simpa using own2
 rcases own3.2 with ⟨_, hn⟩ | ⟨g2, cap2, cur2, rfl, _⟩
 · omega
 go_ret
 exact ⟨g2, cap2, rfl, own3, L2⟩
end Go.Proofs.YtldagpfeaabcdaaGreatDoor
namespace Go.Proofs.YtldagpfeaabcdaaGreatDoor
open Go.RowKit
set_option linter.unusedVariables false
set_option linter.unusedSimpArgs false
set_option maxHeartbeats 4000000
set_option maxRecDepth 20000
theorem jx3 {w : World} {b b' : Nat} {e e' : TypeId} {s s' n n' : Nat} {v v' : Value} {xs xs' : List Value} (h : w.ownsRow b e s v n xs) (h' : w.ownsRow b' e' s' v' n' xs') (hne : e ≠ e') : ∀ k, v.ownBlock = some k → v'.ownBlock ≠ some k := by
 intro k hk hk'
 rcases h.2 with ⟨rfl, _⟩ | ⟨g, cap, cur, rfl, _, hg, _⟩
 · cases hk
 · rcases h'.2 with ⟨rfl, _⟩ | ⟨g', cap', cur', rfl, _, hg', _⟩
   · cases hk'
   · obtain rfl : g = k := Option.some.inj hk
     obtain rfl : g' = g := Option.some.inj hk'
     rw [hg] at hg'
     simp at hg'
     exact hne hg'.2
theorem own_put13 {w : World} {base : Nat} {e : TypeId} {g n cap : Nat} {xs : List Value} (h : w.ownsRow base e 1 (.slice (some ⟨g, 0, none⟩) n cap) n xs) (j : Nat) (u : Value) : (w.setCell ⟨g, j, none⟩ u).ownsRow base e 1 (.slice (some ⟨g, 0, none⟩) n cap) n (xs.set j u) := (h.stored j u).1
end Go.Proofs.YtldagpfeaabcdaaGreatDoor
namespace Go.Proofs.YtldagpfeaabcdaaGreatDoor
open Go.RowKit
set_option maxRecDepth 20000
set_option maxHeartbeats 1000000
set_option linter.unusedVariables false
set_option linter.unusedSimpArgs false
end Go.Proofs.YtldagpfeaabcdaaGreatDoor
namespace Go.Proofs.YtldagpfeaabcdaaGreatDoor
open Go.RowKit
set_option linter.unusedVariables false
set_option linter.unusedSimpArgs false
set_option maxHeartbeats 4000000
set_option maxRecDepth 20000
structure Edt where
 k : Int
 pr : Int
 a : Int
 s : Stm
def edV (e : Edt) : Value := .agg #[.int .i64 e.k, .int .i64 e.pr, .int .i64 e.a, .int .i64 e.s.k, .int .i64 e.s.x, .int .i64 e.s.y]
theorem jj3 {w : World} {b : Nat} {x0 x1 x2 x3 x4 x5 : Value} {T : TypeId} (h : w.heap[b]? = some (.cells #[x0, x1, x2, x3, x4, x5] T (0, 0))) :
 w.cell? ⟨b, 3, none⟩ = some x3 ∧ w.cell? ⟨b, 4, none⟩ = some x4 ∧ w.cell? ⟨b, 5, none⟩ = some x5 := by
 refine ⟨?_, ?_, ?_⟩ <;> simp [World.cell?, h]
theorem jk2 {w : World} {b : Nat} {x0 x1 x2 x3 x4 x5 : Value} {T : TypeId} (h : w.heap[b]? = some (.cells #[x0, x1, x2, x3, x4, x5] T (0, 0))) :
 w.cell? ⟨b, 0, none⟩ = some x0 ∧ w.cell? ⟨b, 1, none⟩ = some x1 ∧ w.cell? ⟨b, 2, none⟩ = some x2 := by
 refine ⟨?_, ?_, ?_⟩ <;> simp [World.cell?, h]
theorem qa4 {x n : Int} (h : wiB x n = true) : 0 ≤ x ∧ x < n := by unfold wiB at h; simpa using h
end Go.Proofs.YtldagpfeaabcdaaGreatDoor
