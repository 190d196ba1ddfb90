/-
  Put together out of: Bfs, InsideM, WaysM.
-/
import Derived.Test.YtebadimjpbhagaaNexts
import Derived.Test.YtebadimjpbhagaaG10FlowsMath
import Derived.Test.YtebadimjpbhagaaG13WayBoth
/-
  Mathematics: what one comes to within a procedure, and how far it is (no dump is spoken of).
-/
namespace Go.Proofs.Ytebadimjpbhagaa
set_option linter.unusedVariables false

/-- What may come behind statement j. -/
def nx (ss : List Stm) (j : Nat) : List Int := nextsS (ss.getD j ⟨0, 0, 0⟩) j

/-- One comes to i by k steps from 0, never to wo. -/
def rk (ss : List Stm) (wo : Int) : Nat → Nat → Prop
  | 0, i => (i : Int) ≠ wo ∧ i = 0
  | k + 1, i => (i : Int) ≠ wo ∧ ∃ j : Nat, rk ss wo k j ∧ (i : Int) ∈ nx ss j

def Rch (ss : List Stm) (wo : Int) (i : Nat) : Prop := ∃ k, rk ss wo k i

theorem nx_eq {ss : List Stm} {j : Nat} (h : j < ss.length) : nx ss j = nextsS ss[j] j := by
  unfold nx; simp [List.getD, h]

theorem nx_in {ss : List Stm} (hp : procOk ss = true) {j : Nat} (h : j < ss.length) : ∀ x ∈ nx ss j, ∃ i : Nat, x = (i : Int) ∧ i < ss.length := by
  rw [nx_eq h]; exact nextsS_in hp h

theorem rk_in {ss : List Stm} (hp : procOk ss = true) {wo : Int} : ∀ {k i : Nat}, rk ss wo k i → i < ss.length
  | 0, i, h => by have := (procOk_parts hp).1; have := h.2; omega
  | k + 1, i, h => by
    obtain ⟨_, j, hj, hm⟩ := h
    obtain ⟨i', e, hlt⟩ := nx_in hp (rk_in hp hj) _ hm
    omega

theorem rk_ne {ss : List Stm} {wo : Int} : ∀ {k i : Nat}, rk ss wo k i → (i : Int) ≠ wo
  | 0, _, h => h.1
  | _ + 1, _, h => h.1

/-- The list of all that one comes to, rising. -/
def IsReached (ss : List Stm) (wo : Int) (A : List Int) : Prop := A.Pairwise (· < ·) ∧ ∀ x, x ∈ A ↔ ∃ i : Nat, x = (i : Int) ∧ Rch ss wo i

theorem sorted_ext : ∀ (a b : List Int), a.Pairwise (· < ·) → b.Pairwise (· < ·) → (∀ x, x ∈ a ↔ x ∈ b) → a = b
  | [], [], _, _, _ => rfl
  | [], y :: b, _, _, h => absurd ((h y).2 (by simp)) (by simp)
  | x :: a, [], _, _, h => absurd ((h x).1 (by simp)) (by simp)
  | x :: a, y :: b, ha, hb, h => by
    rw [List.pairwise_cons] at ha hb
    have h1 := (h x).1 (by simp)
    have h2 := (h y).2 (by simp)
    have hxy : x = y := by
      rcases List.mem_cons.1 h1 with e | e
      · exact e
      · rcases List.mem_cons.1 h2 with e' | e'
        · exact e'.symm
        · have := hb.1 x e; have := ha.1 y e'; omega
    subst hxy
    rw [sorted_ext a b ha.2 hb.2 (fun z => ?_)]
    have hz := h z
    simp only [List.mem_cons] at hz
    constructor
    · intro hm
      rcases hz.1 (.inr hm) with e | e
      · have := ha.1 z hm; omega
      · exact e
    · intro hm
      rcases hz.2 (.inr hm) with e | e
      · have := hb.1 z hm; omega
      · exact e

theorem isReached_unique {ss : List Stm} {wo : Int} {A B : List Int} (ha : IsReached ss wo A) (hb : IsReached ss wo B) : A = B :=
  sorted_ext A B ha.1 hb.1 (fun x => (ha.2 x).trans (hb.2 x).symm)

theorem isReached_some {ss : List Stm} (hp : procOk ss = true) (wo : Int) : ∃ A, IsReached ss wo A := by
  classical
  refine ⟨((List.range ss.length).filter (fun i => decide (Rch ss wo i))).map (fun i : Nat => (i : Int)), ?_, fun x => ?_⟩
  · rw [List.pairwise_map]
    exact (List.pairwise_lt_range.sublist List.filter_sublist).imp (fun h => by omega)
  · simp only [List.mem_map, List.mem_filter, List.mem_range, decide_eq_true_eq]
    constructor
    · rintro ⟨i, ⟨_, h⟩, rfl⟩; exact ⟨i, rfl, h⟩
    · rintro ⟨i, rfl, k, h⟩; exact ⟨i, ⟨rk_in hp h, k, h⟩, rfl⟩

theorem mem_ins (n : Int) : ∀ (xs : List Int) (x : Int), x ∈ ins n xs ↔ x = n ∨ x ∈ xs
  | [], x => by simp [ins]
  | y :: xs, x => by
    unfold ins
    split
    · simp only [List.mem_cons, mem_ins n xs x]
      constructor
      · rintro (h | h | h) <;> simp [h]
      · rintro (h | h | h) <;> simp [h]
    · split
      · rename_i h; subst h; simp
      · simp

theorem ins_sorted (n : Int) : ∀ xs : List Int, xs.Pairwise (· < ·) → (ins n xs).Pairwise (· < ·)
  | [], _ => by simp [ins]
  | y :: xs, h => by
    rw [List.pairwise_cons] at h
    unfold ins
    split
    · rename_i hy
      rw [List.pairwise_cons]
      refine ⟨fun z hz => ?_, ins_sorted n xs h.2⟩
      rcases (mem_ins n xs z).1 hz with rfl | hz
      · exact hy
      · exact h.1 z hz
    · split
      · rw [List.pairwise_cons]; exact h
      · rw [List.pairwise_cons, List.pairwise_cons]
        refine ⟨fun z hz => ?_, h⟩
        rcases List.mem_cons.1 hz with rfl | hz
        · omega
        · have := h.1 z hz; omega

theorem ins_len_new (n : Int) : ∀ xs : List Int, n ∉ xs → (ins n xs).length = xs.length + 1
  | [], _ => by simp [ins]
  | y :: xs, h => by
    simp only [List.mem_cons, not_or] at h
    unfold ins
    split
    · simp [ins_len_new n xs h.2]
    · split
      · omega
      · simp

theorem sorted_length : ∀ (a : List Int) (lo : Int) (n : Nat), a.Pairwise (· < ·) → (∀ x ∈ a, lo ≤ x ∧ x < lo + n) → a.length ≤ n
  | [], _, _, _, _ => by simp
  | x :: a, lo, n, h, hb => by
    rw [List.pairwise_cons] at h
    have hx := hb x (by simp)
    have hn : ((n - 1 - (x - lo).toNat : Nat) : Int) = n - 1 - (x - lo) := by omega
    have := sorted_length a (x + 1) (n - 1 - (x - lo).toNat) h.2 (fun y hy => by have := h.1 y hy; have := hb y (by simp [hy]); omega)
    simp only [List.length_cons]
    omega

/-- The state of a search that works its list off. -/
structure RInv (ss : List Stm) (wo : Int) (out todo : List Int) : Prop where
  sorted : out.Pairwise (· < ·)
  outR : ∀ x ∈ out, ∃ i : Nat, x = (i : Int) ∧ Rch ss wo i
  todoR : ∀ x ∈ todo, ∃ i : Nat, x = (i : Int) ∧ i < ss.length ∧ ((i : Int) ≠ wo → Rch ss wo i)
  zero : (0 : Int) ∈ out ∨ (0 : Int) ∈ todo ∨ (0 : Int) = wo
  closed : ∀ i : Nat, (i : Int) ∈ out → ∀ y ∈ nx ss i, y ∈ out ∨ y ∈ todo ∨ y = wo
  len : todo.length ≤ 1 + 2 * out.length

theorem RInv.start {ss : List Stm} (hp : procOk ss = true) (wo : Int) : RInv ss wo [] [0] where
  sorted := by simp
  outR := by simp
  todoR := fun x hx => by simp at hx; subst hx; exact ⟨0, rfl, by have := (procOk_parts hp).1; omega, fun h => ⟨0, h, rfl⟩⟩
  zero := by simp
  closed := by simp
  len := by simp

theorem RInv.outLen {ss : List Stm} {wo : Int} {out todo : List Int} (hp : procOk ss = true) (h : RInv ss wo out todo) : out.length ≤ 12 := by
  have h12 := (procOk_parts hp).2.1
  refine Nat.le_trans (sorted_length out 0 ss.length h.sorted (fun x hx => ?_)) h12
  obtain ⟨i, rfl, k, hk⟩ := h.outR x hx
  have := rk_in hp hk
  omega

theorem RInv.skip {ss : List Stm} {wo : Int} {out todo : List Int} {x : Int} (h : RInv ss wo out (x :: todo)) (hx : x = wo ∨ x ∈ out) : RInv ss wo out todo where
  sorted := h.sorted
  outR := h.outR
  todoR := fun y hy => h.todoR y (by simp [hy])
  zero := by
    rcases h.zero with h0 | h0 | h0
    · exact .inl h0
    · rcases List.mem_cons.1 h0 with e | e
      · rcases hx with hx | hx
        · exact .inr (.inr (e.trans hx))
        · exact .inl (e ▸ hx)
      · exact .inr (.inl e)
    · exact .inr (.inr h0)
  closed := fun i hi y hy => by
    rcases h.closed i hi y hy with h0 | h0 | h0
    · exact .inl h0
    · rcases List.mem_cons.1 h0 with e | e
      · rcases hx with hx | hx
        · exact .inr (.inr (e.trans hx))
        · exact .inl (e ▸ hx)
      · exact .inr (.inl e)
    · exact .inr (.inr h0)
  len := by have := h.len; simp at this; omega

theorem RInv.step {ss : List Stm} {wo : Int} {out todo : List Int} {i : Nat} (hp : procOk ss = true) (h : RInv ss wo out ((i : Int) :: todo)) (h1 : (i : Int) ≠ wo) (h2 : (i : Int) ∉ out) : RInv ss wo (ins i out) (todo ++ nx ss i) := by
  obtain ⟨i', e, hlt, hR⟩ := h.todoR i (by simp)
  obtain rfl : i = i' := by omega
  have hi := hR h1
  refine ⟨ins_sorted _ _ h.sorted, fun x hx => ?_, fun x hx => ?_, ?_, fun j hj y hy => ?_, ?_⟩
  · rcases (mem_ins _ _ _).1 hx with rfl | hx
    · exact ⟨i, rfl, hi⟩
    · exact h.outR x hx
  · rcases List.mem_append.1 hx with hx | hx
    · exact h.todoR x (by simp [hx])
    · obtain ⟨j, rfl, hj⟩ := nx_in hp hlt x hx
      obtain ⟨k, hk⟩ := hi
      exact ⟨j, rfl, hj, fun hne => ⟨k + 1, hne, i, hk, hx⟩⟩
  · rcases h.zero with h0 | h0 | h0
    · exact .inl ((mem_ins _ _ _).2 (.inr h0))
    · rcases List.mem_cons.1 h0 with e | e
      · exact .inl ((mem_ins _ _ _).2 (.inl e))
      · exact .inr (.inl (by simp [e]))
    · exact .inr (.inr h0)
  · rcases (mem_ins _ _ _).1 hj with e | hj
    · obtain rfl : j = i := by omega
      exact .inr (.inl (by simp [hy]))
    · rcases h.closed j hj y hy with h0 | h0 | h0
      · exact .inl ((mem_ins _ _ _).2 (.inr h0))
      · rcases List.mem_cons.1 h0 with e | e
        · exact .inl ((mem_ins _ _ _).2 (.inl e))
        · exact .inr (.inl (by simp [e]))
      · exact .inr (.inr h0)
  · have := h.len
    have h3 : (nx ss i).length ≤ 2 := nextsS_length _ _
    rw [ins_len_new _ _ h2, List.length_append]
    simp at this
    omega

theorem RInv.done {ss : List Stm} {wo : Int} {out : List Int} (h : RInv ss wo out []) : IsReached ss wo out := by
  refine ⟨h.sorted, fun x => ⟨h.outR x, ?_⟩⟩
  rintro ⟨i, rfl, k, hk⟩
  have key : ∀ (k i : Nat), rk ss wo k i → (i : Int) ∈ out := by
    intro k
    induction k with
    | zero =>
      intro i hk
      obtain ⟨h1, rfl⟩ := hk
      rcases h.zero with h0 | h0 | h0
      · exact h0
      · simp at h0
      · exact absurd h0 h1
    | succ k ih =>
      intro i hk
      obtain ⟨h1, j, hj, hm⟩ := hk
      rcases h.closed j (ih j hj) _ hm with h0 | h0 | h0
      · exact h0
      · simp at h0
      · exact absurd h0 h1
  exact key k i hk

end Go.Proofs.Ytebadimjpbhagaa

/-
  Mathematics of chapter 8: what holds along ways, what covers (no dump is spoken of).
-/
namespace Go.Proofs.Ytebadimjpbhagaa
set_option linter.unusedVariables false

/-- What statement i does, of client c. -/
def flw (c : Int) (ss : List Stm) (i : Nat) : List Int := flowL c (ss.getD i ⟨0, 0, 0⟩).k (ss.getD i ⟨0, 0, 0⟩).x (ss.getD i ⟨0, 0, 0⟩).y

theorem flw_eq {c : Int} {ss : List Stm} {i : Nat} (h : i < ss.length) : flw c ss i = flowL c ss[i].k ss[i].x ss[i].y := by
  unfold flw; simp [List.getD, h]

theorem stm_ok {ss : List Stm} (hp : procOk ss = true) {i : Nat} (h : i < ss.length) : stmtOk ss[i].k ss[i].x ss[i].y = true := by
  have := ((procOk_parts hp).2.2 i h).1
  simp only [stmOk, Bool.and_eq_true] at this
  exact this.1

theorem flw_smalls {c : Int} {ss : List Stm} (hp : procOk ss = true) {i : Nat} (h : i < ss.length) : Smalls (flw c ss i) := by
  rw [flw_eq h]; exact flowL_smalls (stm_ok hp h)

/-- What s becomes behind k statements of the way. -/
def alongK (c : Int) (ss : List Stm) (ys : List Int) (s : Int) : Nat → Int
  | 0 => s
  | k + 1 => img (flw c ss (ys.getD k 0).toNat) (alongK c ss ys s k)

def isCl (c : Int) : Bool := decide (c = 1 ∨ c = 2)

def alongAns (ss : List Stm) (c : Int) (ys : List Int) (s : Int) : Int :=
  if wayAns ss ys && isCl c && inB s 0 127 then alongK c ss ys s (ys.length - 1) else -1

theorem wayAns_parts {ss : List Stm} {ys : List Int} (h : wayAns ss ys = true) : procOk ss = true ∧ 1 ≤ ys.length ∧ ys.length ≤ 100 ∧ ys.getD 0 0 = 0 ∧ stepsOk ss ys (ys.length - 1) = true := by
  simp only [wayAns, Bool.and_eq_true, decide_eq_true_eq, beq_iff_eq] at h
  obtain ⟨⟨⟨⟨a, b⟩, c⟩, d⟩, e⟩ := h
  exact ⟨a, b, c, d, e⟩

theorem way_in {ss : List Stm} {ys : List Int} (h : wayAns ss ys = true) {k : Nat} (hk : k < ys.length) : ∃ j : Nat, ys.getD k 0 = (j : Int) ∧ j < ss.length := by
  obtain ⟨hp, h1, h2, h3, h4⟩ := wayAns_parts h
  exact stepsOk_in hp h3 (stepsOk_mono (by omega) h4)

theorem alongK_small {c : Int} {ss : List Stm} {ys : List Int} {s : Int} (h : wayAns ss ys = true) (hs : Small s) : ∀ {k : Nat}, k ≤ ys.length → Small (alongK c ss ys s k)
  | 0, _ => hs
  | k + 1, hk => by
    obtain ⟨j, hj, hlt⟩ := way_in h (k := k) (by omega)
    rw [alongK, hj, Int.toNat_natCast]
    exact img_small (flw_smalls (wayAns_parts h).1 hlt) _

theorem cut_all : ∀ a, a < 128 → ∀ b, b < 128 → decide (bits .andNot .i64 ((a : Nat) : Int) ((b : Nat) : Int) = 0) = decide (bits .or .i64 (b : Int) (a : Int) = (b : Int)) := by decide +kernel

/-- Has a all of b? -/
def hasA (a b : Int) : Bool := decide (lor a b = a)

theorem cut_has {a b : Int} (ha : Small a) (hb : Small b) : decide (bits .andNot .i64 b a = 0) = hasA a b := by
  obtain ⟨m, rfl, hm⟩ := small_nat ha
  obtain ⟨n, rfl, hn⟩ := small_nat hb
  exact cut_all n hn m hm

theorem hasA_iff {a b : Int} (ha : Small a) (hb : Small b) : hasA a b = true ↔ ∀ t, t < 7 → bit b t = true → bit a t = true := by
  unfold hasA
  rw [decide_eq_true_eq]
  constructor
  · intro h t ht hbt
    rw [← h, bit_lor ha hb, hbt, Bool.or_true]
  · intro h
    refine bit_ext (lor_small ha hb) ha (fun t ht => ?_)
    rw [bit_lor ha hb]
    cases hbt : bit b t
    · simp
    · rw [h t ht hbt]; rfl

/-- Have the nexts of statement i all that it makes of its set? -/
def covI (c : Int) (ss : List Stm) (xs : List Int) (i : Nat) : Bool := (nx ss i).all (fun x => hasA (xs.getD x.toNat 0) (img (flw c ss i) (xs.getD i 0)))

def covK (c : Int) (ss : List Stm) (xs : List Int) : Nat → Bool
  | 0 => true
  | k + 1 => covK c ss xs k && covI c ss xs k

def coversAns (ss : List Stm) (c s : Int) (xs : List Int) : Bool :=
  procOk ss && isCl c && inB s 0 127 && decide (xs.length = ss.length) && xs.all (fun x => inB x 0 127) && hasA (xs.getD 0 0) s && covK c ss xs ss.length

theorem covK_mono {c : Int} {ss : List Stm} {xs : List Int} : ∀ {m k : Nat}, k ≤ m → covK c ss xs m = true → covK c ss xs k = true
  | 0, k, h, hm => by obtain rfl : k = 0 := by omega
                      rfl
  | m + 1, k, h, hm => by
    rcases Nat.lt_or_ge k (m + 1) with h' | h'
    · simp only [covK, Bool.and_eq_true] at hm
      exact covK_mono (Nat.le_of_lt_succ h') hm.1
    · obtain rfl : k = m + 1 := by omega
      exact hm

theorem covK_iff {c : Int} {ss : List Stm} {xs : List Int} : ∀ {m : Nat}, covK c ss xs m = true ↔ ∀ i, i < m → covI c ss xs i = true
  | 0 => by simp [covK]
  | m + 1 => by
    rw [covK, Bool.and_eq_true, covK_iff]
    constructor
    · rintro ⟨a, b⟩ i hi
      rcases Nat.lt_or_ge i m with h | h
      · exact a i h
      · obtain rfl : i = m := by omega
        exact b
    · exact fun h => ⟨fun i hi => h i (by omega), h m (by omega)⟩

theorem smallAll {xs : List Int} (h : xs.all (fun x => inB x 0 127) = true) (k : Nat) : Small (xs.getD k 0) := by
  rcases Nat.lt_or_ge k xs.length with hk | hk
  · have := List.all_eq_true.1 h xs[k] (List.getElem_mem hk)
    simp [List.getD, hk]
    exact small_in.1 this
  · simp only [List.getD, List.getElem?_eq_none hk, Option.getD_none]
    exact ⟨by decide, by decide⟩

end Go.Proofs.Ytebadimjpbhagaa

/-
  Mathematics: all ways, level by level.
-/
namespace Go.Proofs.Ytebadimjpbhagaa
set_option linter.unusedVariables false

def lastI (way : List Int) : Int := way.getD (way.length - 1) 0

theorem lastI_snoc (way : List Int) (y : Int) : lastI (way ++ [y]) = y := by simp [lastI, List.getD]

def grow1 (ss : List Stm) (way : List Int) : List (List Int) := (nx ss (lastI way).toNat).map (fun y => way ++ [y])

def levs (ss : List Stm) : Nat → List (List Int)
  | 0 => [[0]]
  | k + 1 => (levs ss k).flatMap (grow1 ss)

def waysTo (ss : List Stm) (i : Int) : Nat → List (List Int)
  | 0 => []
  | k + 1 => waysTo ss i k ++ (levs ss k).filter (fun way => decide (lastI way = i))

theorem levs_mem {ss : List Stm} (hp : procOk ss = true) : ∀ (k : Nat) (way : List Int), way ∈ levs ss k → way.length = k + 1 ∧ ∃ j : Nat, lastI way = (j : Int) ∧ j < ss.length
  | 0, way, h => by
    simp [levs] at h
    subst h
    exact ⟨rfl, 0, rfl, (procOk_parts hp).1⟩
  | k + 1, way, h => by
    simp only [levs, List.mem_flatMap, grow1, List.mem_map] at h
    obtain ⟨w0, h0, y, hy, rfl⟩ := h
    obtain ⟨hl, j, hj, hlt⟩ := levs_mem hp k w0 h0
    rw [hj, Int.toNat_natCast] at hy
    refine ⟨by simp [hl], ?_⟩
    rw [lastI_snoc]
    exact nx_in hp hlt y hy

theorem grow1_len (ss : List Stm) (way : List Int) : (grow1 ss way).length ≤ 2 := by
  simp only [grow1, List.length_map]
  exact nextsS_length _ _

theorem flat_len (ss : List Stm) : ∀ l : List (List Int), (l.flatMap (grow1 ss)).length ≤ 2 * l.length
  | [] => by simp
  | x :: l => by
    have := flat_len ss l
    have := grow1_len ss x
    simp only [List.flatMap_cons, List.length_append, List.length_cons]
    omega

theorem levs_len (ss : List Stm) : ∀ k : Nat, (levs ss k).length ≤ 2 ^ k
  | 0 => by simp [levs]
  | k + 1 => by
    have h1 := levs_len ss k
    have h2 := flat_len ss (levs ss k)
    show ((levs ss k).flatMap (grow1 ss)).length ≤ 2 ^ (k + 1)
    rw [Nat.pow_succ]
    omega

theorem levs_small (ss : List Stm) (k : Nat) (h : k ≤ 9) : (levs ss k).length ≤ 512 := by
  refine Nat.le_trans (levs_len ss k) ?_
  exact Nat.le_trans (Nat.pow_le_pow_right (by omega) h) (by decide)

theorem waysTo_small (ss : List Stm) (i : Int) : ∀ k : Nat, k ≤ 9 → (waysTo ss i k).length ≤ 512 * k
  | 0, _ => by simp [waysTo]
  | k + 1, h => by
    have h1 := waysTo_small ss i k (by omega)
    have h2 := levs_small ss k (by omega)
    have h3 := List.length_filter_le (fun way => decide (lastI way = i)) (levs ss k)
    simp only [waysTo, List.length_append]
    omega

end Go.Proofs.Ytebadimjpbhagaa
