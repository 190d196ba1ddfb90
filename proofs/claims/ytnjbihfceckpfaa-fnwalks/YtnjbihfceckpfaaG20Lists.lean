/-
 Put together out of: WalkM, Lists.
-/
import Derived.Test.YtnjbihfceckpfaaG18TabEx
import Derived.Test.YtnjbihfceckpfaaG19PlOwn
import Derived.Test.YtnjbihfceckpfaaG05RelM
import Derived.Maps.AppendAt
/-
 Chapter 12, mathematics: walks. Where a walk stands, what may come next, what holds then.
-/
namespace Go.Proofs.Ytnjbihfceckpfaa
open Go.RowKit
set_option linter.unusedVariables false
set_option maxHeartbeats 1000000

/-- Where a walk stands: procedure, statement, the calls that are open (place, and what was kept), what holds. -/
structure WS where
 p : Nat
 i : Nat
 op : List (Nat × Nat × Int)
 h : Int

def stW (ps : List (List Stm)) (p i : Nat) : Stm := (ps.getD p []).getD i ⟨0, 0, 0⟩

/-- The open places, flat; what was kept; both together. -/
def flatP (op : List (Nat × Nat × Int)) : List Int := op.flatMap (fun t => [(t.1 : Int), (t.2.1 : Int)])
def keptP (op : List (Nat × Nat × Int)) : List Int := op.map (fun t => t.2.2)
def flat3 (op : List (Nat × Nat × Int)) : List Int := op.flatMap (fun t => [(t.1 : Int), (t.2.1 : Int), t.2.2])

theorem flatP_len (op : List (Nat × Nat × Int)) : (flatP op).length = 2 * op.length := by
 induction op with
 | nil => rfl
 | cons t op ih => unfold flatP at *; simp [ih]; omega
theorem keptP_len (op : List (Nat × Nat × Int)) : (keptP op).length = op.length := by simp [keptP]
theorem flat3_len (op : List (Nat × Nat × Int)) : (flat3 op).length = 3 * op.length := by
 induction op with
 | nil => rfl
 | cons t op ih => unfold flat3 at *; simp [ih]; omega
theorem flatP_app (op : List (Nat × Nat × Int)) (t : Nat × Nat × Int) : flatP (op ++ [t]) = flatP op ++ [(t.1 : Int), (t.2.1 : Int)] := by simp [flatP]
theorem keptP_app (op : List (Nat × Nat × Int)) (t : Nat × Nat × Int) : keptP (op ++ [t]) = keptP op ++ [t.2.2] := by simp [keptP]
theorem flat3_app (op : List (Nat × Nat × Int)) (t : Nat × Nat × Int) : flat3 (op ++ [t]) = flat3 op ++ [(t.1 : Int), (t.2.1 : Int), t.2.2] := by simp [flat3]

/-- The places that may come next, flat. -/
def lastPl (op : List (Nat × Nat × Int)) : List Int := match op.getLast? with
 | none => []
 | some t => [(t.1 : Int), (t.2.1 : Int) + 1]
def nxS (t : Stm) (p i : Nat) (op : List (Nat × Nat × Int)) : List Int :=
 if t.k = 8 then [t.y, 0] else if t.k = 9 then lastPl op else (nextsS t i).flatMap (fun x => [(p : Int), x])
def nxW (ps : List (List Stm)) (s : WS) : List Int := nxS (stW ps s.p s.i) s.p s.i s.op

/-- What comes behind a place. -/
def lastK (op : List (Nat × Nat × Int)) : Int := match op.getLast? with
 | none => 0
 | some t => t.2.2
def opS (t : Stm) (s : WS) : List (Nat × Nat × Int) := if t.k = 8 then s.op ++ [(s.p, s.i, s.h)] else if t.k = 9 then s.op.dropLast else s.op
def hS (c : Int) (t : Stm) (s : WS) : Int :=
 if t.k = 8 then img (enterAns c) s.h else if t.k = 9 then lor (img leaveL s.h) (img keepL (lastK s.op)) else img (flowL c t.k t.x t.y) s.h
def doW (c : Int) (ps : List (List Stm)) (s : WS) (p i : Nat) : WS := ⟨p, i, opS (stW ps s.p s.i) s, hS c (stW ps s.p s.i) s⟩

/-- Is the place among the first k of these? -/
def hasN (xs : List Int) (a b : Int) : Nat → Bool
 | 0 => false
 | k + 1 => hasN xs a b k || (decide (xs.getD (k * 2) 0 = a) && decide (xs.getD (k * 2 + 1) 0 = b))
def hasPl (xs : List Int) (a b : Int) : Bool := hasN xs a b (xs.length / 2)

theorem hasN_mem {xs : List Int} {a b : Int} : ∀ k, hasN xs a b k = true → ∃ j, j < k ∧ xs.getD (j * 2) 0 = a ∧ xs.getD (j * 2 + 1) 0 = b
 | 0, h => by simp [hasN] at h
 | k + 1, h => by
  unfold hasN at h
  rw [Bool.or_eq_true] at h
  rcases h with h | h
  · obtain ⟨j, hj, h1⟩ := hasN_mem k h
    exact ⟨j, by omega, h1⟩
  · simp only [Bool.and_eq_true, decide_eq_true_eq] at h
    exact ⟨k, by omega, h⟩
theorem hasN_of {xs : List Int} {a b : Int} {j : Nat} : ∀ k, j < k → xs.getD (j * 2) 0 = a → xs.getD (j * 2 + 1) 0 = b → hasN xs a b k = true
 | 0, h, _, _ => by omega
 | k + 1, h, h1, h2 => by
  unfold hasN
  by_cases hj : j = k
  · subst hj; simp only [h1, h2, decide_true, Bool.and_self, Bool.or_true]
  · rw [hasN_of k (by omega) h1 h2, Bool.true_or]

/-- The walk up to place k. -/
def wk (c : Int) (ps : List (List Stm)) (xs : List Int) : Nat → Option WS
 | 0 => some ⟨0, 0, [], startAns c⟩
 | k + 1 => (wk c ps xs k).bind fun s =>
  if hasPl (nxW ps s) (xs.getD ((k + 1) * 2) 0) (xs.getD ((k + 1) * 2 + 1) 0) then some (doW c ps s (xs.getD ((k + 1) * 2) 0).toNat (xs.getD ((k + 1) * 2 + 1) 0).toNat) else none

theorem wk_none {c : Int} {ps : List (List Stm)} {xs : List Int} {k : Nat} (h : wk c ps xs k = none) : ∀ m, k ≤ m → wk c ps xs m = none
 | 0, hm => by
  have : k = 0 := by omega
  subst this; exact h
 | m + 1, hm => by
  by_cases e : k = m + 1
  · subst e; exact h
  · unfold wk
    rw [wk_none h m (by omega)]; rfl
theorem wk_no {c : Int} {ps : List (List Stm)} {xs : List Int} {k : Nat} {s : WS} (h : wk c ps xs k = some s) (hn : hasPl (nxW ps s) (xs.getD ((k + 1) * 2) 0) (xs.getD ((k + 1) * 2 + 1) 0) = false) : wk c ps xs (k + 1) = none := by
 unfold wk
 rw [h, Option.bind_some, if_neg (by rw [hn]; simp)]
theorem wk_yes {c : Int} {ps : List (List Stm)} {xs : List Int} {k : Nat} {s : WS} (h : wk c ps xs k = some s) {p i : Nat} (hp : xs.getD ((k + 1) * 2) 0 = (p : Int)) (hi : xs.getD ((k + 1) * 2 + 1) 0 = (i : Int))
 (hn : hasPl (nxW ps s) p i = true) : wk c ps xs (k + 1) = some (doW c ps s p i) := by
 unfold wk
 rw [h, hp, hi]
 simp [hn]

/-- What is so of it. -/
structure OkW (ps : List (List Stm)) (s : WS) (k : Nat) : Prop where
 p : s.p < ps.length
 i : s.i < (ps.getD s.p []).length
 op : ∀ t ∈ s.op, t.1 < ps.length ∧ t.2.1 + 1 < (ps.getD t.1 []).length ∧ (stW ps t.1 t.2.1).k = 8 ∧ Small t.2.2
 h : Small s.h
 len : s.op.length ≤ k

theorem start_smallW {c : Int} (hc : c = 1 ∨ c = 2) : Small (startAns c) := by rcases hc with rfl | rfl <;> simp [startAns, Small]

theorem procs_of {ps : List (List Stm)} (hp : CanP ps) {q : Nat} (hq : q < ps.length) : procOk (ps.getD q []) = true ∧ ∀ s ∈ ps.getD q [], CanS ps.length s := by
 have : ps.getD q [] = ps[q] := by simp [List.getD, hq]
 rw [this]
 exact hp q hq

theorem stW_eq {ps : List (List Stm)} {p i : Nat} (hi : i < (ps.getD p []).length) : stW ps p i = (ps.getD p [])[i] := by
 unfold stW
 rw [List.getD_eq_getElem?_getD (i := i), List.getElem?_eq_getElem hi]
 rfl

theorem OkW.start {c : Int} (hc : c = 1 ∨ c = 2) {ps : List (List Stm)} (hp : CanP ps) (h1 : 1 ≤ ps.length) : OkW ps ⟨0, 0, [], startAns c⟩ 0 :=
 ⟨h1, (procOk_parts (procs_of hp (q := 0) h1).1).1, fun t ht => by simp at ht, start_smallW hc, Nat.le_refl _⟩

theorem OkW.ok {ps : List (List Stm)} (hp : CanP ps) {s : WS} {k : Nat} (h : OkW ps s k) : stmtOk (stW ps s.p s.i).k (stW ps s.p s.i).x (stW ps s.p s.i).y = true := by
 have h1 := ((procOk_parts (procs_of hp h.p).1).2.2 s.i h.i).1
 rw [← stW_eq h.i] at h1
 unfold stmOk at h1
 simp only [Bool.and_eq_true] at h1
 exact h1.1

theorem OkW.call {ps : List (List Stm)} (hp : CanP ps) {s : WS} {k : Nat} (h : OkW ps s k) (h8 : (stW ps s.p s.i).k = 8) : ∃ y : Nat, (stW ps s.p s.i).y = y ∧ y < ps.length ∧ 1 ≤ (ps.getD y []).length ∧ s.i + 1 < (ps.getD s.p []).length := by
 have h1 := (procs_of hp h.p).2 (stW ps s.p s.i) (by rw [stW_eq h.i]; exact List.getElem_mem _)
 obtain ⟨y, hy, hyl⟩ := h1.y h8
 have h3 := ((procOk_parts (procs_of hp h.p).1).2.2 s.i h.i).2
 rw [← stW_eq h.i] at h3
 exact ⟨y, hy, hyl, (procOk_parts (procs_of hp hyl).1).1, h3 (by omega)⟩

theorem OkW.next {ps : List (List Stm)} (hp : CanP ps) {s : WS} {k : Nat} (h : OkW ps s k) : ∀ x ∈ nextsS (stW ps s.p s.i) s.i, ∃ j : Nat, x = (j : Int) ∧ j < (ps.getD s.p []).length := by
 rw [stW_eq h.i]
 exact nextsS_in (procs_of hp h.p).1 h.i

theorem pairs_get (p : Int) : ∀ (l : List Int) (j : Nat), j < l.length → (l.flatMap (fun x => [p, x])).getD (j * 2) 0 = p ∧ (l.flatMap (fun x => [p, x])).getD (j * 2 + 1) 0 = l.getD j 0
 | [], j, h => by simp at h
 | x :: l, 0, h => by simp [List.getD]
 | x :: l, j + 1, h => by
  have := pairs_get p l j (by simpa using h)
  have e1 : (j + 1) * 2 = j * 2 + 1 + 1 := by omega
  have e2 : (j + 1) * 2 + 1 = (j * 2 + 1) + 1 + 1 := by omega
  rw [e2, e1]
  simpa [List.getD] using this
theorem pairs_len (p : Int) (l : List Int) : (l.flatMap (fun x => [p, x])).length = 2 * l.length := by
 induction l with
 | nil => rfl
 | cons x l ih => simp [ih]; omega

/-- A place that may come next is a place, and all that is so stays so. -/
theorem OkW.go {c : Int} (hc : c = 1 ∨ c = 2) {ps : List (List Stm)} (hp : CanP ps) {s : WS} {k : Nat} (h : OkW ps s k) {a b : Int} (hn : hasPl (nxW ps s) a b = true) :
 ∃ p i : Nat, a = p ∧ b = i ∧ OkW ps (doW c ps s p i) (k + 1) := by
 obtain ⟨j, hj, ha, hb⟩ := hasN_mem _ hn
 unfold nxW nxS at hj ha hb
 have hok := h.ok hp
 unfold doW opS hS
 by_cases h8 : (stW ps s.p s.i).k = 8
 · obtain ⟨y, hy, hyl, h1, hil⟩ := h.call hp h8
   rw [if_pos h8] at hj ha hb
   have hj0 : j = 0 := by simp at hj; omega
   subst hj0
   rw [if_pos h8, if_pos h8]
   simp [List.getD] at ha hb
   refine ⟨y, 0, by omega, by omega, hyl, h1, fun t ht => ?_, img_small (enter_smalls hc) _, ?_⟩
   · rcases List.mem_append.1 ht with ht | ht
     · exact h.op t ht
     · simp at ht; subst ht; exact ⟨h.p, hil, h8, h.h⟩
   · have := h.len
     simp; omega
 rw [if_neg h8] at hj ha hb
 rw [if_neg h8, if_neg h8]
 by_cases h9 : (stW ps s.p s.i).k = 9
 · rw [if_pos h9] at hj ha hb
   rw [if_pos h9, if_pos h9]
   unfold lastPl at hj ha hb
   rcases List.eq_nil_or_concat s.op with e | ⟨op', t, e⟩
   · rw [e] at hj; simp at hj
   · have el : s.op.getLast? = some t := by rw [e]; simp
     rw [el] at hj ha hb
     have hj0 : j = 0 := by simp at hj; omega
     subst hj0
     obtain ⟨h1, h2, h3, h4⟩ := h.op t (by rw [e]; simp)
     simp [List.getD] at ha hb
     refine ⟨t.1, t.2.1 + 1, by omega, by push_cast; omega, h1, h2, fun u hu => h.op u (List.dropLast_subset _ hu), lor_small (img_small leave_smalls _) (img_small keep_smalls _), ?_⟩
     have := h.len
     simp; omega
 · rw [if_neg h9] at hj ha hb
   rw [if_neg h9, if_neg h9]
   rw [pairs_len] at hj
   have hj' : j < (nextsS (stW ps s.p s.i) s.i).length := by omega
   obtain ⟨e1, e2⟩ := pairs_get (s.p : Int) _ j hj'
   obtain ⟨q, hq, hql⟩ := h.next hp ((nextsS (stW ps s.p s.i) s.i).getD j 0) (by simp [List.getD, hj'])
   exact ⟨s.p, q, by omega, by omega, h.p, hql, h.op, img_small (flowL_smalls hok) _, by have := h.len; show s.op.length ≤ k + 1; omega⟩

theorem nextsS_len (t : Stm) (i : Int) : (nextsS t i).length ≤ 2 := nextsS_length t i
theorem lastPl_len (op : List (Nat × Nat × Int)) : (lastPl op).length = if op.length = 0 then 0 else 2 := by
 unfold lastPl
 rcases List.eq_nil_or_concat op with e | ⟨op', t, e⟩
 · subst e; rfl
 · have el : op.getLast? = some t := by rw [e]; simp
   rw [el, if_neg (by rw [e]; simp)]; rfl
theorem nxW_len (ps : List (List Stm)) (s : WS) : ∃ n, (nxW ps s).length = 2 * n ∧ n ≤ 2 := by
 unfold nxW nxS
 split
 · exact ⟨1, rfl, by omega⟩
 · split
   · rw [lastPl_len]
     split
     · exact ⟨0, rfl, by omega⟩
     · exact ⟨1, rfl, by omega⟩
   · exact ⟨_, pairs_len _ _, nextsS_len _ _⟩

theorem wk_ok {c : Int} (hc : c = 1 ∨ c = 2) {ps : List (List Stm)} (hp : CanP ps) (h1 : 1 ≤ ps.length) {xs : List Int} : ∀ k s, wk c ps xs k = some s → OkW ps s k
 | 0, s, h => by
  unfold wk at h
  obtain rfl := Option.some.inj h
  exact OkW.start hc hp h1
 | k + 1, s, h => by
  unfold wk at h
  cases hk : wk c ps xs k with
  | none => rw [hk] at h; simp at h
  | some s' =>
   rw [hk] at h
   simp only [Option.bind_some] at h
   split at h
   · rename_i hn
     obtain ⟨p, i, e1, e2, ho⟩ := (wk_ok hc hp h1 k s' hk).go hc hp hn
     rw [e1, e2] at h
     simp only [Int.toNat_natCast] at h
     obtain rfl := Option.some.inj h
     exact ho
   · cases h

/-- What both walks come to: n places. -/
def walkA (c : Int) (ps : List (List Stm)) (xs : List Int) (n : Nat) : Option WS :=
 if programOk ps = true ∧ 1 ≤ n ∧ n ≤ 100 ∧ xs.getD 0 0 = 0 ∧ xs.getD 1 0 = 0 then wk c ps xs (n - 1) else none

def stepsA (ps : List (List Stm)) (xs : List Int) (n : Nat) : List Int := match walkA 1 ps xs n with
 | none => []
 | some s => if n = 100 then [] else nxW ps s
def holdA (c : Int) (ps : List (List Stm)) (xs : List Int) (n : Nat) : Int := if c = 1 ∨ c = 2 then (match walkA c ps xs n with
 | none => -1
 | some s => s.h) else -1

theorem walkA_ok {c : Int} (hc : c = 1 ∨ c = 2) {ps : List (List Stm)} {xs : List Int} {n : Nat} {s : WS} (h : walkA c ps xs n = some s) : okB ps c = true ∧ 1 ≤ n ∧ n ≤ 100 ∧ OkW ps s (n - 1) := by
 unfold walkA at h
 split at h
 · rename_i hh
   have ho : okB ps c = true := by simp [okB, hh.1, hc]
   obtain ⟨_, _, hp, _⟩ := okB_parts ho
   have h1 : 1 ≤ ps.length := by
    have := hh.1
    unfold programOk at this
    simp only [Bool.and_eq_true, decide_eq_true_eq] at this
    omega
   exact ⟨ho, hh.2.1, hh.2.2.1, wk_ok hc hp h1 _ _ h⟩
 · cases h

/-- The walk stands at its last place. -/
theorem wk_pl {c : Int} (hc : c = 1 ∨ c = 2) {ps : List (List Stm)} (hp : CanP ps) (h1 : 1 ≤ ps.length) {xs : List Int} (hx : xs.getD 0 0 = 0 ∧ xs.getD 1 0 = 0) : ∀ k s, wk c ps xs k = some s → (s.p : Int) = xs.getD (k * 2) 0 ∧ (s.i : Int) = xs.getD (k * 2 + 1) 0
 | 0, s, h => by
  unfold wk at h
  obtain rfl := Option.some.inj h
  exact ⟨hx.1.symm, hx.2.symm⟩
 | k + 1, s, h => by
  unfold wk at h
  cases hk : wk c ps xs k with
  | none => rw [hk] at h; simp at h
  | some s' =>
   rw [hk] at h
   simp only [Option.bind_some] at h
   split at h
   · rename_i hn
     obtain ⟨p, i, e1, e2, ho⟩ := (wk_ok hc hp h1 k s' hk).go hc hp hn
     rw [e1, e2] at h
     simp only [Int.toNat_natCast] at h
     obtain rfl := Option.some.inj h
     exact ⟨e1.symm, e2.symm⟩
   · cases h
theorem walkA_pl {c : Int} (hc : c = 1 ∨ c = 2) {ps : List (List Stm)} {xs : List Int} {n : Nat} {s : WS} (h : walkA c ps xs n = some s) : (s.p : Int) = xs.getD ((n - 1) * 2) 0 ∧ (s.i : Int) = xs.getD ((n - 1) * 2 + 1) 0 := by
 obtain ⟨ho, _, _, _⟩ := walkA_ok hc h
 obtain ⟨_, _, hp, _⟩ := okB_parts ho
 unfold walkA at h
 split at h
 · rename_i hh
   have h1 : 1 ≤ ps.length := by
    have := hh.1
    unfold programOk at this
    simp only [Bool.and_eq_true, decide_eq_true_eq] at this
    omega
   exact wk_pl hc hp h1 ⟨hh.2.2.2.1, hh.2.2.2.2⟩ _ _ h
 · cases h

theorem stepsA_len (ps : List (List Stm)) (xs : List Int) (n : Nat) : ∃ m, (stepsA ps xs n).length = 2 * m ∧ m ≤ 100 := by
 unfold stepsA
 cases h : walkA 1 ps xs n with
 | none => exact ⟨0, rfl, by omega⟩
 | some s =>
  show ∃ m, (if n = 100 then [] else nxW ps s).length = 2 * m ∧ m ≤ 100
  split
  · exact ⟨0, rfl, by omega⟩
  · obtain ⟨m, h1, h2⟩ := nxW_len ps s
    exact ⟨m, h1, by omega⟩

end Go.Proofs.Ytnjbihfceckpfaa

/-
 Slices of slices of numbers that the call has made.
-/
namespace Go.Proofs.Ytnjbihfceckpfaa
open Go.RowKit
set_option linter.unusedVariables false
set_option maxHeartbeats 1000000

theorem own_same {w w' : World} {base : Nat} {e : TypeId} {s : Nat} {v : Value} {n : Nat} {xs : List Value} (h : w.ownsRow base e s v n xs) (he : ∀ k, v.ownBlock = some k → w'.heap[k]? = w.heap[k]?) : w'.ownsRow base e s v n xs := by
 refine ⟨h.1, ?_⟩
 rcases h.2 with hn | ⟨g, cap, cur, rfl, hbg, hg, r⟩
 · exact .inl hn
 · exact .inr ⟨g, cap, cur, rfl, hbg, (he g rfl).trans hg, r⟩

/-- v holds the slices us, which hold the lists xss; all the call's own, from block base on. -/
structure OwnSS (w : World) (base : Nat) (v : Value) (us : List Value) (xss : List (List Int)) : Prop where
 row : w.ownsRow base 26 1 v xss.length us
 each : ∀ (j : Nat) (u : Value) (xs : List Int), us[j]? = some u → xss[j]? = some xs → w.ownsRow base 2 1 u xs.length (ints xs)

theorem OwnSS.len {w : World} {base : Nat} {v : Value} {us : List Value} {xss : List (List Int)} (h : OwnSS w base v us xss) : us.length = xss.length := by
 have := h.row.1
 omega

theorem OwnSS.inner {w : World} {base : Nat} {v : Value} {us : List Value} {xss : List (List Int)} (h : OwnSS w base v us xss) {u : Value} (hu : u ∈ us) : ∃ xs ∈ xss, w.ownsRow base 2 1 u xs.length (ints xs) := by
 obtain ⟨j, hj⟩ := List.getElem?_of_mem hu
 have hjl : j < xss.length := by rw [← h.len]; exact (List.getElem?_eq_some_iff.1 hj).1
 exact ⟨xss[j], List.getElem_mem hjl, h.each j u xss[j] hj (by simp [hjl])⟩

theorem OwnSS.same {w w' : World} {base : Nat} {v : Value} {us : List Value} {xss : List (List Int)} (h : OwnSS w base v us xss) (h1 : ∀ k, v.ownBlock = some k → w'.heap[k]? = w.heap[k]?) (h2 : ∀ u ∈ us, ∀ k, u.ownBlock = some k → w'.heap[k]? = w.heap[k]?) : OwnSS w' base v us xss :=
 ⟨own_same h.row h1, fun j u xs hj hx => own_same (h.each j u xs hj hx) (h2 u (List.mem_of_getElem? hj))⟩

theorem OwnSS.ltI {w : World} {base : Nat} {v : Value} {us : List Value} {xss : List (List Int)} (h : OwnSS w base v us xss) {u : Value} (hu : u ∈ us) {k : Nat} (hk : u.ownBlock = some k) : base ≤ k ∧ k < w.heap.size := by
 obtain ⟨xs, _, ho⟩ := h.inner hu
 exact ho.lt k hk

theorem OwnSS.below {w w' : World} {base : Nat} {v : Value} {us : List Value} {xss : List (List Int)} (h : OwnSS w base v us xss) (hb : Below w.heap.size w w') : OwnSS w' base v us xss :=
 h.same (fun k hk => hb.block k (h.row.lt k hk).2) (fun u hu k hk => hb.block k (h.ltI hu hk).2)

theorem OwnSS.mono {w : World} {base base' : Nat} {v : Value} {us : List Value} {xss : List (List Int)} (h : OwnSS w base v us xss) (hb : base' ≤ base) : OwnSS w base' v us xss :=
 ⟨own_mono h.row hb, fun j u xs hj hx => own_mono (h.each j u xs hj hx) hb⟩

/-- A row of another kind is another block. -/
theorem row_kind {w : World} {base base' : Nat} {e e' : TypeId} {s s' n n' : Nat} {v v' : Value} {xs xs' : List Value} (h : w.ownsRow base e s v n xs) (h' : w.ownsRow base' e' s' v' n' xs') (hne : e ≠ e') {k : Nat} (hk : v.ownBlock = some k) : v'.ownBlock ≠ some k := by
 intro hk'
 rcases h.2 with ⟨rfl, _⟩ | ⟨g, cap, cur, rfl, _, hg, _⟩
 · simp [Value.ownBlock] at hk
 rcases h'.2 with ⟨rfl, _⟩ | ⟨g', cap', cur', rfl, _, hg', _⟩
 · simp [Value.ownBlock] at hk'
 simp [Value.ownBlock] at hk hk'
 subst hk
 subst hk'
 rw [hg] at hg'
 simp at hg'
 exact hne hg'.2

/-- One list more. -/
theorem OwnSS.appended {w w' : World} {base : Nat} {v v' u : Value} {us : List Value} {xss : List (List Int)} {xs : List Int} (h : OwnSS w base v us xss) (hu : w.ownsRow base 2 1 u xs.length (ints xs))
 (hr : w'.ownsRow base 26 1 v' (xss.length + 1) (us ++ [u])) (hg : w.grownBy w' v.ownBlock) : OwnSS w' base v' (us ++ [u]) (xss ++ [xs]) := by
 refine ⟨by simpa using hr, fun j x ys hj hx => ?_⟩
 have keep : ∀ (x : Value) (ys : List Int), w.ownsRow base 2 1 x ys.length (ints ys) → w'.ownsRow base 2 1 x ys.length (ints ys) := fun x ys ho =>
  own_same ho (fun k hk => hg.block k (ho.lt k hk).2 (fun e => row_kind ho h.row (by decide) hk e.symm))
 have hl := h.len
 by_cases hjl : j < us.length
 · rw [List.getElem?_append_left hjl] at hj
   rw [List.getElem?_append_left (by omega)] at hx
   exact keep x ys (h.each j x ys hj hx)
 · rw [List.getElem?_append_right (by omega)] at hj
   rw [List.getElem?_append_right (by omega)] at hx
   have : j - us.length = 0 := by
    have := (List.getElem?_eq_some_iff.1 hj).1
    simp at this; omega
   rw [this] at hj
   rw [← hl, this] at hx
   simp at hj hx
   subst hj hx
   exact keep u xs hu

/-- A change elsewhere: of a row of slices that is another one. -/
theorem OwnSS.other {w w' : World} {base : Nat} {v : Value} {us : List Value} {xss : List (List Int)} {base2 : Nat} {v2 : Value} {n2 : Nat} {us2 : List Value} (h : OwnSS w base v us xss) (h2 : w.ownsRow base2 26 1 v2 n2 us2) (hg : w.grownBy w' v2.ownBlock) (hne : ∀ k, v.ownBlock = some k → v2.ownBlock ≠ some k) : OwnSS w' base v us xss :=
 h.same (fun k hk => hg.block k (h.row.lt k hk).2 (fun e => hne k hk e.symm)) (fun u hu k hk => by
  obtain ⟨xs, _, ho⟩ := h.inner hu
  exact hg.block k (ho.lt k hk).2 (fun e => row_kind ho h2 (by decide) hk e.symm))

theorem infoSlice : (Try.prog.info? 26).map (fun i => (i.zero, i.size, i.bytes)) = some (some (.slice none 0 0), 1, 24) := by kernel_rfl

/-- The cell of a list in its row. -/
theorem OwnSS.at {w : World} {base g cap : Nat} {us : List Value} {xss : List (List Int)} (h : OwnSS w base (.slice (some ⟨g, 0, none⟩) xss.length cap) us xss) {j : Nat} (hj : j < xss.length) : ∃ u, us[j]? = some u ∧ w.cell? ⟨g, j, none⟩ = some u ∧ w.ownsRow base 2 1 u xss[j].length (ints xss[j]) := by
 have hl := h.len
 refine ⟨us[j]'(by omega), by simp [hl, hj], ?_, h.each j _ _ (by simp [hl, hj]) (by simp [hj])⟩
 rw [h.row.cellAt j (by omega)]
 simp [hl, hj]

end Go.Proofs.Ytnjbihfceckpfaa
