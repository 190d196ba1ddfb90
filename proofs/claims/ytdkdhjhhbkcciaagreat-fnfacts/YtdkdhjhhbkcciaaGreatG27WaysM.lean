/-
 Put together out of: PlacesM, SpecNow, BeforeBoth, WayBoth, Bfs, InsideM, WaysM.
-/
import Derived.Test.YtdkdhjhhbkcciaaGreatG21PlOwn
import Derived.Test.YtdkdhjhhbkcciaaGreatSpecFacts
import Derived.Test.YtdkdhjhhbkcciaaGreatG09Nexts
import Derived.Deep.RegionHeld3
import Derived.Deep.DrawnRows
import Derived.Test.YtdkdhjhhbkcciaaGreatG07Proc
namespace Go.Proofs.YtdkdhjhhbkcciaaGreat
open Go.RowKit
set_option linter.unusedVariables false
set_option maxHeartbeats 1000000
def rowPl (P : Nat → Nat → Bool) (i : Nat) : Nat → List Int
 | 0 => []
 | k + 1 => rowPl P i k ++ (if P i k then [(i : Int), (k : Int)] else [])
def allPl (P : Nat → Nat → Bool) (ps : List (List Stm)) : Nat → List Int
 | 0 => []
 | i + 1 => allPl P ps i ++ rowPl P i (ps.getD i []).length
theorem rowPl_len (P : Nat → Nat → Bool) (i : Nat) : ∀ k, ∃ n, (rowPl P i k).length = 2 * n ∧ n ≤ k
 | 0 => ⟨0, rfl, Nat.le_refl _⟩
 | k + 1 => by
  obtain ⟨n, h, hn⟩ := rowPl_len P i k
  unfold rowPl
  by_cases hp : P i k = true
  · exact ⟨n + 1, by rw [if_pos hp]; simp [h]; omega, by omega⟩
  · exact ⟨n, by rw [if_neg hp]; simp [h], by omega⟩
theorem allPl_len (P : Nat → Nat → Bool) {ps : List (List Stm)} (h12 : ∀ i (hi : i < ps.length), ps[i].length ≤ 12) : ∀ i, i ≤ ps.length → ∃ n, (allPl P ps i).length = 2 * n ∧ n ≤ 12 * i
 | 0, _ => ⟨0, rfl, Nat.le_refl _⟩
 | i + 1, hi => by
  obtain ⟨n, h, hn⟩ := allPl_len P h12 i (by omega)
  have hil : i < ps.length := by omega
  obtain ⟨m, h', hm⟩ := rowPl_len P i (ps.getD i []).length
  have e : (ps.getD i []).length = ps[i].length := by simp [List.getD, hil]
  have := h12 i hil
  exact ⟨n + m, by unfold allPl; simp only [List.length_append, h, h']; omega, by rw [e] at hm; omega⟩
theorem rowPl_congr {P Q : Nat → Nat → Bool} {i : Nat} : ∀ k, (∀ q, q < k → P i q = Q i q) → rowPl P i k = rowPl Q i k
 | 0, _ => rfl
 | k + 1, h => by unfold rowPl; rw [rowPl_congr k (fun q hq => h q (by omega)), h k (by omega)]
theorem allPl_congr {P Q : Nat → Nat → Bool} {ps : List (List Stm)} : ∀ i, i ≤ ps.length → (∀ j (hj : j < ps.length) q, q < ps[j].length → P j q = Q j q) → allPl P ps i = allPl Q ps i
 | 0, _, _ => rfl
 | i + 1, hi, h => by
  have hil : i < ps.length := by omega
  unfold allPl
  rw [allPl_congr i (by omega) h, rowPl_congr _ (fun q hq => h i hil q (by simpa [List.getD, hil] using hq))]
end Go.Proofs.YtdkdhjhhbkcciaaGreat
namespace Go.Proofs.YtdkdhjhhbkcciaaGreat
open Go.RowKit
set_option linter.unusedVariables false
set_option linter.unusedSimpArgs false
set_option maxHeartbeats 4000000
set_option maxRecDepth 20000
def selP (ps : List (List Stm)) (F : Stm → Int → Bool) (I : Nat → Nat → List Int) (E : List Int) (i k : Nat) : Bool := F ((ps.getD i []).getD k ⟨0, 0, 0⟩) (img (I i k) (E.getD i 0))
def PlA (ps : List (List Stm)) (c : Int) (F : Stm → Int → Bool) (X : List Int) : Prop := (okB ps c = true → ∃ I E, FA ps c I E ∧ X = allPl (selP ps F I E) ps ps.length) ∧ (okB ps c = false → X = [])
def nowF (_ : Stm) (x : Int) : Bool := decide (x = 0)
def testF (s : Stm) (x : Int) : Bool := decide (s.k = 6) && bit x (s.x + 1).toNat
theorem plA_some (ps : List (List Stm)) (c : Int) (F : Stm → Int → Bool) : ∃ X, PlA ps c F X := by
 cases h : okB ps c with
 | false => exact ⟨[], by simp [h], fun _ => rfl⟩
 | true =>
  obtain ⟨I, E, hE⟩ := fa_some h
  exact ⟨_, fun _ => ⟨I, E, hE, rfl⟩, by simp [h]⟩
theorem OwnSS.kind {w w' : World} {base b : Nat} {v ov : Value} {us : List Value} {xss : List (List Int)} {Y : List Int} (h : OwnSS w base v us xss) (ho : OwnPl w b ov Y) (hg : w.grownBy w' ov.ownBlock) : OwnSS w' base v us xss := by
 obtain ⟨n, _, ho⟩ := ho.ex
 exact ⟨own_same h.row (fun k hk => hg.block k (h.row.lt k hk).2 (fun e => row_kind h.row ho (by decide) hk e.symm)),
  fun j u xs hj hx => own_same (h.each j u xs hj hx) (fun k hk => hg.block k ((h.each j u xs hj hx).lt k hk).2 (fun e => row_kind (h.each j u xs hj hx) ho (by decide) hk e.symm))⟩
end Go.Proofs.YtdkdhjhhbkcciaaGreat
namespace Go.Proofs.YtdkdhjhhbkcciaaGreat
open Go.RowKit
set_option linter.unusedVariables false
set_option maxHeartbeats 1000000
def hasI (xs : List Int) (n : Int) : Bool := xs.any (fun x => decide (x = n))
end Go.Proofs.YtdkdhjhhbkcciaaGreat
namespace Go.Proofs.YtdkdhjhhbkcciaaGreat
open Go.RowKit
set_option linter.unusedVariables false
set_option maxHeartbeats 1000000
def stepsOk (ss : List Stm) (ys : List Int) : Nat → Bool
 | 0 => true
 | k + 1 => stepsOk ss ys k && hasI (nextsS (ss.getD (ys.getD k 0).toNat ⟨0, 0, 0⟩) (ys.getD k 0)) (ys.getD (k + 1) 0)
theorem stepsOk_in {ss : List Stm} {ys : List Int} (hp : procOk ss = true) (h0 : ys.getD 0 0 = 0) : ∀ {k : Nat}, stepsOk ss ys k = true → ∃ j : Nat, ys.getD k 0 = (j : Int) ∧ j < ss.length
 | 0, _ => ⟨0, by simpa using h0, by have := (procOk_parts hp).1; omega⟩
 | k + 1, h => by
  simp only [stepsOk, Bool.and_eq_true] at h
  obtain ⟨h1, h2⟩ := h
  obtain ⟨j, hj, hlt⟩ := stepsOk_in hp h0 h1
  rw [hj] at h2
  have hg : ss.getD ((j : Int).toNat) ⟨0, 0, 0⟩ = ss[j] := by simp [List.getD, hlt]
  rw [hg] at h2
  obtain ⟨x, hx, he⟩ := List.any_eq_true.1 h2
  simp at he
  subst he
  exact nextsS_in hp hlt _ hx
end Go.Proofs.YtdkdhjhhbkcciaaGreat
namespace Go.Proofs.YtdkdhjhhbkcciaaGreat
set_option linter.unusedVariables false
def nx (ss : List Stm) (j : Nat) : List Int := nextsS (ss.getD j ⟨0, 0, 0⟩) j
def rk (ss : List Stm) (wo : Int) : Nat → Nat → Prop
 | 0, i => (i : Int) ≠ wo ∧ i = 0
 | k + 1, i => (i : Int) ≠ wo ∧ ∃ j : Nat, rk ss wo k j ∧ (i : Int) ∈ nx ss j
def Rch (ss : List Stm) (wo : Int) (i : Nat) : Prop := ∃ k, rk ss wo k i
theorem nx_eq {ss : List Stm} {j : Nat} (h : j < ss.length) : nx ss j = nextsS ss[j] j := by
 unfold nx; simp [List.getD, h]
theorem nx_in {ss : List Stm} (hp : procOk ss = true) {j : Nat} (h : j < ss.length) : ∀ x ∈ nx ss j, ∃ i : Nat, x = (i : Int) ∧ i < ss.length := by
 rw [nx_eq h]; exact nextsS_in hp h
def IsReached (ss : List Stm) (wo : Int) (A : List Int) : Prop := A.Pairwise (· < ·) ∧ ∀ x, x ∈ A ↔ ∃ i : Nat, x = (i : Int) ∧ Rch ss wo i
theorem mem_ins (n : Int) : ∀ (xs : List Int) (x : Int), x ∈ ins n xs ↔ x = n ∨ x ∈ xs
 | [], x => by simp [ins]
 | y :: xs, x => by
  unfold ins
  split
  · simp only [List.mem_cons, mem_ins n xs x]
    constructor
    · rintro (h | h | h) <;> simp [h]
    · rintro (h | h | h) <;> simp [h]
  · split
    · rename_i h; subst h; simp
    · simp
theorem ins_sorted (n : Int) : ∀ xs : List Int, xs.Pairwise (· < ·) → (ins n xs).Pairwise (· < ·)
 | [], _ => by simp [ins]
 | y :: xs, h => by
  rw [List.pairwise_cons] at h
  unfold ins
  split
  · rename_i hy
    rw [List.pairwise_cons]
    refine ⟨fun z hz => ?_, ins_sorted n xs h.2⟩
    rcases (mem_ins n xs z).1 hz with rfl | hz
    · exact hy
    · exact h.1 z hz
  · split
    · rw [List.pairwise_cons]; exact h
    · rw [List.pairwise_cons, List.pairwise_cons]
      refine ⟨fun z hz => ?_, h⟩
      rcases List.mem_cons.1 hz with rfl | hz
      · omega
      · have := h.1 z hz; omega
theorem ins_len_new (n : Int) : ∀ xs : List Int, n ∉ xs → (ins n xs).length = xs.length + 1
 | [], _ => by simp [ins]
 | y :: xs, h => by
  simp only [List.mem_cons, not_or] at h
  unfold ins
  split
  · simp [ins_len_new n xs h.2]
  · split
    · omega
    · simp
structure RInv (ss : List Stm) (wo : Int) (out todo : List Int) : Prop where
 sorted : out.Pairwise (· < ·)
 outR : ∀ x ∈ out, ∃ i : Nat, x = (i : Int) ∧ Rch ss wo i
 todoR : ∀ x ∈ todo, ∃ i : Nat, x = (i : Int) ∧ i < ss.length ∧ ((i : Int) ≠ wo → Rch ss wo i)
 zero : (0 : Int) ∈ out ∨ (0 : Int) ∈ todo ∨ (0 : Int) = wo
 closed : ∀ i : Nat, (i : Int) ∈ out → ∀ y ∈ nx ss i, y ∈ out ∨ y ∈ todo ∨ y = wo
 len : todo.length ≤ 1 + 2 * out.length
theorem RInv.start {ss : List Stm} (hp : procOk ss = true) (wo : Int) : RInv ss wo [] [0] where
 sorted := by simp
 outR := by simp
 todoR := fun x hx => by simp at hx; subst hx; exact ⟨0, rfl, by have := (procOk_parts hp).1; omega, fun h => ⟨0, h, rfl⟩⟩
 zero := by simp
 closed := by simp
 len := by simp
theorem RInv.skip {ss : List Stm} {wo : Int} {out todo : List Int} {x : Int} (h : RInv ss wo out (x :: todo)) (hx : x = wo ∨ x ∈ out) : RInv ss wo out todo where
 sorted := h.sorted
 outR := h.outR
 todoR := fun y hy => h.todoR y (by simp [hy])
 zero := by
  rcases h.zero with h0 | h0 | h0
  · exact .inl h0
  · rcases List.mem_cons.1 h0 with e | e
    · rcases hx with hx | hx
      · exact .inr (.inr (e.trans hx))
      · exact .inl (e ▸ hx)
    · exact .inr (.inl e)
  · exact .inr (.inr h0)
 closed := fun i hi y hy => by
  rcases h.closed i hi y hy with h0 | h0 | h0
  · exact .inl h0
  · rcases List.mem_cons.1 h0 with e | e
    · rcases hx with hx | hx
      · exact .inr (.inr (e.trans hx))
      · exact .inl (e ▸ hx)
    · exact .inr (.inl e)
  · exact .inr (.inr h0)
 len := by have := h.len; simp at this; omega
theorem RInv.step {ss : List Stm} {wo : Int} {out todo : List Int} {i : Nat} (hp : procOk ss = true) (h : RInv ss wo out ((i : Int) :: todo)) (h1 : (i : Int) ≠ wo) (h2 : (i : Int) ∉ out) : RInv ss wo (ins i out) (todo ++ nx ss i) := by
 obtain ⟨i', e, hlt, hR⟩ := h.todoR i (by simp)
 obtain rfl : i = i' := by omega
 have hi := hR h1
 refine ⟨ins_sorted _ _ h.sorted, fun x hx => ?_, fun x hx => ?_, ?_, fun j hj y hy => ?_, ?_⟩
 · rcases (mem_ins _ _ _).1 hx with rfl | hx
   · exact ⟨i, rfl, hi⟩
   · exact h.outR x hx
 · rcases List.mem_append.1 hx with hx | hx
   · exact h.todoR x (by simp [hx])
   · obtain ⟨j, rfl, hj⟩ := nx_in hp hlt x hx
     obtain ⟨k, hk⟩ := hi
     exact ⟨j, rfl, hj, fun hne => ⟨k + 1, hne, i, hk, hx⟩⟩
 · rcases h.zero with h0 | h0 | h0
   · exact .inl ((mem_ins _ _ _).2 (.inr h0))
   · rcases List.mem_cons.1 h0 with e | e
     · exact .inl ((mem_ins _ _ _).2 (.inl e))
     · exact .inr (.inl (by simp [e]))
   · exact .inr (.inr h0)
 · rcases (mem_ins _ _ _).1 hj with e | hj
   · obtain rfl : j = i := by omega
     exact .inr (.inl (by simp [hy]))
   · rcases h.closed j hj y hy with h0 | h0 | h0
     · exact .inl ((mem_ins _ _ _).2 (.inr h0))
     · rcases List.mem_cons.1 h0 with e | e
       · exact .inl ((mem_ins _ _ _).2 (.inl e))
       · exact .inr (.inl (by simp [e]))
     · exact .inr (.inr h0)
 · have := h.len
   have h3 : (nx ss i).length ≤ 2 := nextsS_length _ _
   rw [ins_len_new _ _ h2, List.length_append]
   simp at this
   omega
theorem RInv.done {ss : List Stm} {wo : Int} {out : List Int} (h : RInv ss wo out []) : IsReached ss wo out := by
 refine ⟨h.sorted, fun x => ⟨h.outR x, ?_⟩⟩
 rintro ⟨i, rfl, k, hk⟩
 have key : ∀ (k i : Nat), rk ss wo k i → (i : Int) ∈ out := by
  intro k
  induction k with
  | zero =>
   intro i hk
   obtain ⟨h1, rfl⟩ := hk
   rcases h.zero with h0 | h0 | h0
   · exact h0
   · simp at h0
   · exact absurd h0 h1
  | succ k ih =>
   intro i hk
   obtain ⟨h1, j, hj, hm⟩ := hk
   rcases h.closed j (ih j hj) _ hm with h0 | h0 | h0
   · exact h0
   · simp at h0
   · exact absurd h0 h1
 exact key k i hk
end Go.Proofs.YtdkdhjhhbkcciaaGreat
namespace Go.Proofs.YtdkdhjhhbkcciaaGreat
set_option linter.unusedVariables false
def flw (c : Int) (ss : List Stm) (i : Nat) : List Int := flowL c (ss.getD i ⟨0, 0, 0⟩).k (ss.getD i ⟨0, 0, 0⟩).x (ss.getD i ⟨0, 0, 0⟩).y
theorem flw_eq {c : Int} {ss : List Stm} {i : Nat} (h : i < ss.length) : flw c ss i = flowL c ss[i].k ss[i].x ss[i].y := by
 unfold flw; simp [List.getD, h]
theorem stm_ok {ss : List Stm} (hp : procOk ss = true) {i : Nat} (h : i < ss.length) : stmtOk ss[i].k ss[i].x ss[i].y = true := by
 have := ((procOk_parts hp).2.2 i h).1
 simp only [stmOk, Bool.and_eq_true] at this
 exact this.1
theorem flw_smalls {c : Int} {ss : List Stm} (hp : procOk ss = true) {i : Nat} (h : i < ss.length) : Smalls (flw c ss i) := by
 rw [flw_eq h]; exact flowL_smalls (stm_ok hp h)
def alongK (c : Int) (ss : List Stm) (ys : List Int) (s : Int) : Nat → Int
 | 0 => s
 | k + 1 => img (flw c ss (ys.getD k 0).toNat) (alongK c ss ys s k)
def isCl (c : Int) : Bool := decide (c = 1 ∨ c = 2)
theorem cut_all : ∀ a, a < 128 → ∀ b, b < 128 → decide (bits .andNot .i64 ((a : Nat) : Int) ((b : Nat) : Int) = 0) = decide (bits .or .i64 (b : Int) (a : Int) = (b : Int)) := by decide +kernel
def hasA (a b : Int) : Bool := decide (lor a b = a)
theorem cut_has {a b : Int} (ha : Small a) (hb : Small b) : decide (bits .andNot .i64 b a = 0) = hasA a b := by
 obtain ⟨m, rfl, hm⟩ := small_nat ha
 obtain ⟨n, rfl, hn⟩ := small_nat hb
 exact cut_all n hn m hm
theorem hasA_iff {a b : Int} (ha : Small a) (hb : Small b) : hasA a b = true ↔ ∀ t, t < 7 → bit b t = true → bit a t = true := by
 unfold hasA
 rw [decide_eq_true_eq]
 constructor
 · intro h t ht hbt
   rw [← h, bit_lor ha hb, hbt, Bool.or_true]
 · intro h
   refine bit_ext (lor_small ha hb) ha (fun t ht => ?_)
   rw [bit_lor ha hb]
   cases hbt : bit b t
   · simp
   · rw [h t ht hbt]; rfl
def covI (c : Int) (ss : List Stm) (xs : List Int) (i : Nat) : Bool := (nx ss i).all (fun x => hasA (xs.getD x.toNat 0) (img (flw c ss i) (xs.getD i 0)))
def covK (c : Int) (ss : List Stm) (xs : List Int) : Nat → Bool
 | 0 => true
 | k + 1 => covK c ss xs k && covI c ss xs k
theorem covK_iff {c : Int} {ss : List Stm} {xs : List Int} : ∀ {m : Nat}, covK c ss xs m = true ↔ ∀ i, i < m → covI c ss xs i = true
 | 0 => by simp [covK]
 | m + 1 => by
  rw [covK, Bool.and_eq_true, covK_iff]
  constructor
  · rintro ⟨a, b⟩ i hi
    rcases Nat.lt_or_ge i m with h | h
    · exact a i h
    · obtain rfl : i = m := by omega
      exact b
  · exact fun h => ⟨fun i hi => h i (by omega), h m (by omega)⟩
end Go.Proofs.YtdkdhjhhbkcciaaGreat
namespace Go.Proofs.YtdkdhjhhbkcciaaGreat
set_option linter.unusedVariables false
def lastI (way : List Int) : Int := way.getD (way.length - 1) 0
theorem lastI_snoc (way : List Int) (y : Int) : lastI (way ++ [y]) = y := by simp [lastI, List.getD]
def grow1 (ss : List Stm) (way : List Int) : List (List Int) := (nx ss (lastI way).toNat).map (fun y => way ++ [y])
end Go.Proofs.YtdkdhjhhbkcciaaGreat
