/-
  Put together out of: CircP, BeforeBoth.
-/
import Derived.Test.YtmloeldgeegddaaG19CircE3
import Derived.Test.YtmloeldgeegddaaNexts
/-
  What was asked of all graphs, said of the calls of a right program.
-/
namespace Go.Proofs.Ytmloeldgeegddaa
set_option linter.unusedVariables false

theorem chk4 : (cand 4 0).all (chkRow 4) = true := by
  have e : cand 4 0 = [[], [3], [2], [2, 3], [1], [1, 3], [1, 2], [1, 2, 3]] := by decide
  rw [e]
  simp only [List.all_cons, List.all_nil, chk40, chk4r3, chk4r2, chk4r23, chk4r1, chk4r13, chk4r12, chk4r123, Bool.and_true]

theorem chk_all {n : Nat} (h1 : 1 ≤ n) (h4 : n ≤ 4) {r0 r1 r2 r3 : List Nat} (h0 : r0 ∈ cand n 0) (hr1 : r1 ∈ cand n 1) (hr2 : r2 ∈ cand n 2) (hr3 : r3 ∈ cand n 3) : chk n (row4 [] r0 r1 r2 r3) = true := by
  have key : (cand n 0).all (chkRow n) = true := by
    have : n = 1 ∨ n = 2 ∨ n = 3 ∨ n = 4 := by omega
    rcases this with rfl | rfl | rfl | rfl
    · exact chk1
    · exact chk2
    · exact chk3
    · exact chk4
  have a0 := List.all_eq_true.1 key r0 h0
  unfold chkRow at a0
  exact List.all_eq_true.1 (List.all_eq_true.1 (List.all_eq_true.1 a0 r1 hr1) r2 hr2) r3 hr3

/-- The calls of a program, as numbers from 0 on. -/
def NC (ps : List (List Stm)) (i : Nat) : List Nat := (List.range ps.length).filter (fun j => called (ps.getD i []) (j : Int))

theorem NC_out {ps : List (List Stm)} {i : Nat} (h : ps.length ≤ i) : NC ps i = [] := by
  have e : ps.getD i [] = [] := by simp [List.getD, h]
  unfold NC
  rw [e]
  simp [called]

theorem NC_lt {ps : List (List Stm)} {i y : Nat} (h : y ∈ NC ps i) : y < ps.length := by
  unfold NC at h
  simpa using (List.mem_filter.1 h).1

theorem callG_NC {ps : List (List Stm)} (hok : programOk ps = true) (i : Nat) : callG ps i = (NC ps i).map (fun y : Nat => (y : Int)) := by
  by_cases hi : i < ps.length
  · have hg := graph_of hok
    refine sorted_ext _ _ ?_ ?_ (fun x => ?_)
    · unfold callG
      rw [if_pos hok]
      cases called (ps.getD i []) 0 <;> cases called (ps.getD i []) 1 <;> cases called (ps.getD i []) 2 <;> cases called (ps.getD i []) 3 <;> simp [nums]
    · rw [List.pairwise_map]
      exact (List.pairwise_lt_range.sublist List.filter_sublist).imp (fun h => by omega)
    · have hmem : x ∈ callG ps i ↔ called ps[i] x = true := by
        rw [callG_eq hok hi, ← callsOf_any, List.any_eq_true]
        constructor
        · intro h; exact ⟨x, h, by simp⟩
        · rintro ⟨y, hy, e⟩
          simp only [decide_eq_true_eq] at e
          rw [← e]; exact hy
      have eg : ps.getD i [] = ps[i] := by simp [List.getD, hi]
      simp only [NC, List.mem_map, List.mem_filter, List.mem_range, eg]
      constructor
      · intro h
        obtain ⟨j, rfl, hj⟩ := hg.inn i hi x h
        exact ⟨j, ⟨hj, hmem.1 h⟩, rfl⟩
      · rintro ⟨j, ⟨hj, hc⟩, rfl⟩
        exact hmem.2 hc
  · rw [NC_out (by omega)]
    have e : ps.getD i [] = [] := by rw [List.getD_eq_getElem?_getD, List.getElem?_eq_none (by omega)]; rfl
    unfold callG
    rw [if_pos hok, e]
    simp [called, nums]

/-- .. without calls of oneself. -/
def NS (ps : List (List Stm)) : Nat → List Nat := noSelf (NC ps)

theorem NS_row {ps : List (List Stm)} (h4 : ps.length ≤ 4) : NS ps = row4 [] (NS ps 0) (NS ps 1) (NS ps 2) (NS ps 3) := by
  funext i
  match i with
  | 0 => rfl
  | 1 => rfl
  | 2 => rfl
  | 3 => rfl
  | i + 4 =>
    show noSelf (NC ps) (i + 4) = []
    unfold noSelf
    rw [NC_out (by omega)]
    rfl

theorem NS_cand (ps : List (List Stm)) (i : Nat) : NS ps i ∈ cand ps.length i := by
  unfold cand
  cases hb : Nat.blt i ps.length
  · have : ps.length ≤ i := by
      rcases Nat.lt_or_ge i ps.length with h | h
      · have h2 : Nat.blt i ps.length = true := Nat.ble_eq_true_of_le h
        rw [h2] at hb; cases hb
      · exact h
    simp only [cond]
    unfold NS noSelf
    rw [NC_out this]
    simp
  · simp only [cond]
    apply subs_mem
    have e : NS ps i = ((List.range ps.length).filter (fun y => !Nat.beq y i)).filter (fun a : Nat => called (ps.getD i []) (a : Int)) := by
      unfold NS noSelf NC
      rw [List.filter_filter, List.filter_filter]
      congr 1
      funext a
      exact Bool.and_comm _ _
    rw [e]
    exact List.filter_sublist

theorem uni_mem : ∀ (t s : List Nat) (x : Nat), x ∈ uni s t ↔ x ∈ s ∨ x ∈ t
  | [], s, x => by simp [uni]
  | y :: t, s, x => by
    have ih := uni_mem t (bif hasN s y then s else s ++ [y]) x
    have e : uni s (y :: t) = uni (bif hasN s y then s else s ++ [y]) t := rfl
    rw [e, ih]
    cases hb : hasN s y
    · simp only [cond, List.mem_append, List.mem_cons, List.not_mem_nil, or_false]
      constructor
      · rintro ((h | h) | h)
        · exact .inl h
        · exact .inr (.inl h)
        · exact .inr (.inr h)
      · rintro (h | h | h)
        · exact .inl (.inl h)
        · exact .inl (.inr h)
        · exact .inr h
    · have := hasN_mem.1 hb
      simp only [cond, List.mem_cons]
      constructor
      · rintro (h | h)
        · exact .inl h
        · exact .inr (.inr h)
      · rintro (h | h | h)
        · exact .inl h
        · subst h; exact .inl this
        · exact .inr h

theorem foldR_mem (C : Nat → List Nat) : ∀ (l s : List Nat) (x : Nat), x ∈ l.foldl (fun a x => uni a (C x)) s ↔ x ∈ s ∨ ∃ y ∈ l, x ∈ C y
  | [], s, x => by simp
  | y :: l, s, x => by
    rw [List.foldl_cons, foldR_mem C l, uni_mem]
    simp only [List.mem_cons, exists_eq_or_imp]
    constructor
    · rintro ((h | h) | h)
      · exact .inl h
      · exact .inr (.inl h)
      · exact .inr (.inr h)
    · rintro (h | h | h)
      · exact .inl (.inl h)
      · exact .inl (.inr h)
      · exact .inr h

theorem stepR_mem (C : Nat → List Nat) (s : List Nat) (x : Nat) : x ∈ stepR C s ↔ x ∈ s ∨ ∃ y ∈ s, x ∈ C y := foldR_mem C s s x

/-- The graph in numbers of Go's kind. -/
def castG (C : Nat → List Nat) (i : Nat) : List Int := (C i).map (fun y : Nat => (y : Int))

theorem mem_castG {C : Nat → List Nat} {i y : Nat} : (y : Int) ∈ castG C i ↔ y ∈ C i := by
  unfold castG
  rw [List.mem_map]
  constructor
  · rintro ⟨a, ha, e⟩
    have : a = y := by omega
    subst this
    exact ha
  · intro h
    exact ⟨y, h, rfl⟩

theorem rch_sound {C : Nat → List Nat} {i x : Nat} (h : x ∈ rch C i) : CR (castG C) i x := by
  have one : ∀ s : List Nat, (∀ y ∈ s, CR (castG C) i y) → ∀ y ∈ stepR C s, CR (castG C) i y := fun s hs y hy => by
    rcases (stepR_mem C s y).1 hy with h1 | ⟨z, hz, h1⟩
    · exact hs y h1
    · exact (hs z hz).step (mem_castG.2 h1)
  refine one _ (one _ (one [i] (fun y hy => ?_))) x h
  have : y = i := by simpa using hy
  subst this
  exact CR.refl _ _

theorem rch_self (C : Nat → List Nat) (i : Nat) : i ∈ rch C i := (stepR_mem C _ _).2 (.inl ((stepR_mem C _ _).2 (.inl ((stepR_mem C _ _).2 (.inl (by simp))))))

theorem rch_iff {C : Nat → List Nat} {i : Nat} (hc : closedB C (rch C i) = true) {x : Nat} : x ∈ rch C i ↔ CR (castG C) i x := by
  refine ⟨rch_sound, fun h => CR.closed (S := fun y => y ∈ rch C i) (rch_self C i) (fun y hy z hz => ?_) h⟩
  unfold closedB at hc
  exact hasN_mem.1 (List.all_eq_true.1 (List.all_eq_true.1 hc y hy) z (mem_castG.1 hz))

theorem CR_noSelf {C : Nat → List Nat} {i x : Nat} : CR (castG (noSelf C)) i x ↔ CR (castG C) i x := by
  constructor
  · intro h
    refine CR.closed (S := fun y => CR (castG C) i y) (CR.refl _ _) (fun y hy z hz => ?_) h
    have := mem_castG.1 hz
    unfold noSelf at this
    exact hy.step (mem_castG.2 (List.mem_filter.1 this).1)
  · intro h
    refine CR.closed (S := fun y => CR (castG (noSelf C)) i y) (CR.refl _ _) (fun y hy z hz => ?_) h
    by_cases e : z = y
    · subst e; exact hy
    · refine hy.step (mem_castG.2 ?_)
      unfold noSelf
      refine List.mem_filter.2 ⟨mem_castG.1 hz, ?_⟩
      cases hb : Nat.beq z y
      · rfl
      · exact absurd (Nat.eq_of_beq_eq_true hb) e

theorem chk_asked {n : Nat} {C : Nat → List Nat} (h : chk n C = true) : (∀ i, i < n → closedB C (row4 [] (rch C 0) (rch C 1) (rch C 2) (rch C 3) i) = true) ∧ Asked n C (relR (row4 [] (rch C 0) (rch C 1) (rch C 2) (rch C 3))) (circS n (relR (row4 [] (rch C 0) (rch C 1) (rch C 2) (rch C 3)))) (ordI (relR (row4 [] (rch C 0) (rch C 1) (rch C 2) (rch C 3))) 4 (circS n (relR (row4 [] (rch C 0) (rch C 1) (rch C 2) (rch C 3))))) := by
  unfold chk at h
  rw [forceL_eq, forceL_eq, forceL_eq, forceL_eq, forceLL_eq, forceLL_eq] at h
  simp only [Bool.and_eq_true] at h
  obtain ⟨h1, h2⟩ := h
  refine ⟨fun i hi => List.all_eq_true.1 h1 i (List.mem_range.2 hi), ?_⟩
  revert h2
  generalize relR (row4 [] (rch C 0) (rch C 1) (rch C 2) (rch C 3)) = r
  generalize circS n r = c
  generalize ho : ordI r 4 c = o
  intro h2
  unfold askB at h2
  simp only [Bool.and_eq_true] at h2
  obtain ⟨a1, a2, a3, a4, a5, a6, a7, a8, a9, a10⟩ := h2
  exact ⟨eqLL_eq a1, ho, eqLL_eq a2, Nat.eq_of_beq_eq_true a4, a5, a6, a7, a8, Nat.eq_of_beq_eq_true a9, Nat.eq_of_beq_eq_true a10⟩

/-- What is so of the calls of a right program. -/
structure Groups (ps : List (List Stm)) (r : Nat → Nat → Bool) (c o : List (List Nat)) : Prop where
  asked : Asked ps.length (NS ps) r c o
  circ : circS ps.length r = c
  rel : ∀ i k, i < ps.length → (r i k = true ↔ CR (callG ps) i k)

theorem groups_of {ps : List (List Stm)} (hok : programOk ps = true) : ∃ r c o, Groups ps r c o := by
  obtain ⟨h4, h1, _⟩ := programOk_len hok
  have hc := chk_all h1 h4 (NS_cand ps 0) (NS_cand ps 1) (NS_cand ps 2) (NS_cand ps 3)
  rw [← NS_row h4] at hc
  obtain ⟨hcl, ha⟩ := chk_asked hc
  refine ⟨_, _, _, ha, rfl, fun i k hi => ?_⟩
  have e : row4 [] (rch (NS ps) 0) (rch (NS ps) 1) (rch (NS ps) 2) (rch (NS ps) 3) i = rch (NS ps) i := by
    have : i = 0 ∨ i = 1 ∨ i = 2 ∨ i = 3 := by omega
    rcases this with rfl | rfl | rfl | rfl <;> rfl
  have hcl := hcl i hi
  rw [e] at hcl
  have eG : callG ps = castG (NC ps) := by funext j; exact callG_NC hok j
  show hasN (row4 [] (rch (NS ps) 0) (rch (NS ps) 1) (rch (NS ps) 2) (rch (NS ps) 3) i) k = true ↔ _
  rw [e, hasN_mem, rch_iff hcl, eG]
  exact CR_noSelf

end Go.Proofs.Ytmloeldgeegddaa

/-
  slices.Contains over int64; spec.Before, impl.Before.
-/
namespace Go.Proofs.Ytmloeldgeegddaa
open Go.RowKit
set_option linter.unusedVariables false
set_option maxHeartbeats 1000000

def hasI (xs : List Int) (n : Int) : Bool := xs.any (fun x => decide (x = n))

theorem sliceIndex (xs : List Int) (n : Int) (v : Value) (w : World) (hl : xs.length ≤ maxLen) (hv : Reads w v (ints xs)) :
    Calls Try.prog 116 #[v, .int .i64 n] w fun e w' => ∃ r : Int, e = .returned (.int .i64 r) ∧ decide (0 ≤ r) = hasI xs n ∧ -1 ≤ r ∧ r ≤ 9223372036854775807 ∧ w = w' := by
  unfold maxLen at hl
  obtain ⟨ao, cap, rfl, hc⟩ := hv
  rw [ints_length]
  obtain ⟨B, hB⟩ : ∃ B, hasI xs n = B := ⟨_, rfl⟩
  rw [hB]
  have HB : Hid (hasI xs n = B) := hB
  clear hB
  go_enter Try.func116, Try.ntmps116
  go_wp2
  go_loopw [8] (fun i wr => ∃ k : Nat, k ≤ xs.length ∧ i = .int .i64 k ∧ w = wr ∧ hasI (xs.take k) n = false) (fun i _ => xs.length - (intOf i).toNat)
  case atStart => exact ⟨0, Nat.zero_le _, rfl, rfl, by simp [hasI]⟩
  case round =>
    obtain ⟨k, hk, rfl, rfl, hno⟩ := hrel
    have HNO : Hid _ := hno
    clear hno
    by_cases hlt : k < xs.length
    · have hlt' : (k : Int) < (xs.length : Int) := by omega
      obtain ⟨g, off, rfl, hg⟩ := hc k (.int .i64 xs[k]) (by simp [ints, hlt])
      have h1 : hasI (xs.take (k + 1)) n = decide (xs[k] = n) := by
        unfold hasI
        rw [List.take_succ_eq_append_getElem hlt, List.any_append]
        have := HNO.out
        unfold hasI at this
        rw [this]; simp
      have h2 : xs[k] = n → hasI xs n = true := fun h => List.any_eq_true.2 ⟨xs[k], List.getElem_mem hlt, by simp [h]⟩
      have H1 : Hid _ := h1
      have H2 : Hid _ := h2
      clear h1 h2 hc
      generalize xs[k] = x at *
      by_cases hx : x = n
      · have H4 : Hid (B = true) := HB.out.symm.trans (H2.out hx)
        have hx' : (n == x) = true := by simpa using hx.symm
        clear H1 H2 hx
        go_wp2
        go_ret
        exact ⟨k, rfl, by rw [H4.out]; simp, by omega, by omega, rfl⟩
      · have hx' : (n == x) = false := by simpa using fun h => hx h.symm
        have H3 : Hid (hasI (xs.take (k + 1)) n = false) := H1.out.trans (by simp [hx])
        clear H1 H2
        go_wp2
        go_roundw
        case rel => exact ⟨k + 1, by omega, by go_num, by trivial, H3.out⟩
        case measure => simp [intOf]; omega
    · have hkk : k = xs.length := by omega
      subst hkk
      go_wp2
      go_ret
      have h := HNO.out
      rw [List.take_length, HB.out] at h
      exact ⟨-1, rfl, by rw [h]; rfl, by omega, by omega, rfl⟩

theorem sliceContains (xs : List Int) (n : Int) (v : Value) (w : World) (hl : xs.length ≤ maxLen) (hv : Reads w v (ints xs)) :
    Calls Try.prog 93 #[v, .int .i64 n] w fun e w' => e = .returned (.bool (hasI xs n)) ∧ w = w' := by
  have hi := sliceIndex xs n v w hl hv
  go_enter Try.func93, Try.ntmps93
  go_wp2_with fail
  go_at_call 116
  refine hi.mono ?_
  rintro e w1 ⟨r, rfl, hr, _, _, rfl⟩
  have HR : Hid _ := hr
  clear hi hr
  go_wp2
  go_ret
  exact ⟨by rw [← HR.out]; simp, rfl⟩

/-- Of the first k statements, those behind which i may come. -/
def befN (ss : List Stm) (i : Int) : Nat → List Int
  | 0 => []
  | k + 1 => befN ss i k ++ (if hasI (nextsS (ss.getD k ⟨0, 0, 0⟩) k) i then [(k : Int)] else [])

theorem befN_lt (ss : List Stm) (i : Int) : ∀ (k : Nat) (x : Int), x ∈ befN ss i k → 0 ≤ x ∧ x < k
  | 0, x, h => by simp [befN] at h
  | k + 1, x, h => by
    unfold befN at h
    rw [List.mem_append] at h
    rcases h with h | h
    · have := befN_lt ss i k x h; omega
    · split at h
      · simp at h; omega
      · simp at h

theorem befN_length (ss : List Stm) (i : Int) : ∀ k : Nat, (befN ss i k).length ≤ k
  | 0 => by simp [befN]
  | k + 1 => by
    have := befN_length ss i k
    unfold befN
    rw [List.length_append]
    split
    · simp; omega
    · simp; omega

theorem ins_end (n : Int) : ∀ xs : List Int, (∀ x ∈ xs, x < n) → ins n xs = xs ++ [n]
  | [], _ => rfl
  | x :: xs, h => by
    rw [ins, if_pos (h x (by simp)), ins_end n xs (fun y hy => h y (by simp [hy]))]
    rfl

/-- What both answer. -/
def beforeAns (ss : List Stm) (i : Int) : List Int := if hasS ss i then befN ss i ss.length else []

theorem beforeAns_length (ss : List Stm) (i : Int) : (beforeAns ss i).length ≤ 12 := by
  unfold beforeAns
  cases h : hasS ss i
  · simp
  · rw [if_pos rfl]
    obtain ⟨hp, _⟩ := hasS_true h
    obtain ⟨_, h12, _⟩ := procOk_parts hp
    have := befN_length ss i ss.length
    omega

end Go.Proofs.Ytmloeldgeegddaa
