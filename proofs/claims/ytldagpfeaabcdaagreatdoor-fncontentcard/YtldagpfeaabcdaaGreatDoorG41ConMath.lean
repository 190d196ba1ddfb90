/-
  Put together out of: ReadM, ConMath.
-/
import Derived.Test.YtldagpfeaabcdaaGreatDoorG32Bld
import Derived.Test.YtldagpfeaabcdaaGreatDoorG40Alike14
import Derived.Test.YtldagpfeaabcdaaGreatDoorG38CloMath2
/-
  Chapter 13, texts: the mathematics of what a text is read as (FnExactReadProgram, FnShown, FnContent).
-/
namespace Go.Proofs.YtldagpfeaabcdaaGreatDoor
open Go.RowKit
set_option linter.unusedVariables false
set_option linter.unusedSimpArgs false

/-- What stands between the bytes that part. -/
def splitT (sep : UInt8) : List UInt8 → List (List UInt8)
  | [] => [[]]
  | c :: cs => if c = sep then [] :: splitT sep cs else
    match splitT sep cs with
    | [] => [[c]]
    | x :: xs => (c :: x) :: xs

theorem splitT_ne (sep : UInt8) : ∀ s, splitT sep s ≠ []
  | [] => by simp [splitT]
  | c :: cs => by
    unfold splitT
    split
    · simp
    · split <;> simp

theorem splitT_sep (sep : UInt8) (cs : List UInt8) : splitT sep (sep :: cs) = [] :: splitT sep cs := by
  rw [splitT, if_pos rfl]

theorem splitT_cons {sep c : UInt8} (h : c ≠ sep) {cs x : List UInt8} {xs : List (List UInt8)} (hs : splitT sep cs = x :: xs) : splitT sep (c :: cs) = (c :: x) :: xs := by
  rw [splitT, if_neg h, hs]

theorem splitT_free (sep : UInt8) : ∀ (x : List UInt8), sep ∉ x → splitT sep x = [x]
  | [], _ => rfl
  | c :: cs, h => by
    simp only [List.mem_cons, not_or] at h
    exact splitT_cons (fun e => h.1 e.symm) (splitT_free sep cs h.2)

theorem splitT_ahead (sep : UInt8) : ∀ (x s : List UInt8), sep ∉ x → splitT sep (x ++ sep :: s) = x :: splitT sep s
  | [], s, _ => splitT_sep sep s
  | c :: cs, s, h => by
    simp only [List.mem_cons, not_or] at h
    exact splitT_cons (fun e => h.1 e.symm) (splitT_ahead sep cs s h.2)

theorem splitT_join (sep : UInt8) : ∀ (xs : List (List UInt8)), xs ≠ [] → (∀ x ∈ xs, sep ∉ x) → splitT sep (joinT sep xs) = xs
  | [], h, _ => absurd rfl h
  | [x], _, h => splitT_free sep x (h x (by simp))
  | x :: y :: xs, _, h => by
    rw [joinT, splitT_ahead sep x _ (h x (by simp)), splitT_join sep (y :: xs) (by simp) (fun z hz => h z (List.mem_cons_of_mem _ hz))]

theorem join_splitT (sep : UInt8) : ∀ s, joinT sep (splitT sep s) = s
  | [] => rfl
  | c :: cs => by
    have ih := join_splitT sep cs
    by_cases h : c = sep
    · subst h
      rw [splitT_sep]
      cases hs : splitT c cs with
      | nil => exact absurd hs (splitT_ne c cs)
      | cons x xs =>
        rw [hs] at ih
        rw [joinT, ih]
        rfl
    · cases hs : splitT sep cs with
      | nil => exact absurd hs (splitT_ne sep cs)
      | cons x xs =>
        rw [hs] at ih
        rw [splitT_cons h hs]
        cases xs with
        | nil => simpa [joinT] using ih
        | cons y ys =>
          rw [joinT] at ih ⊢
          rw [← ih]; rfl

/-- A number under a hundred, written out. -/
def dd2 (n : Nat) : List UInt8 := if n < 10 then [UInt8.ofNat (48 + n)] else [UInt8.ofNat (48 + n / 10), UInt8.ofNat (48 + n % 10)]

theorem dd_dd2 {n : Int} (h : n < 100) : dd n = dd2 n.toNat := by
  unfold dd dd2
  rw [Lib.decDigits]
  split
  · rfl
  · rw [Lib.decDigits, dif_pos (by omega)]
    rfl

def stmtT2 (s : Stm) : List UInt8 := letter s.k :: joinT 44 ((told s).map (fun n => dd2 n.toNat))
theorem stmtT_two {s : Stm} (h : stmtOk s.k s.x s.y = true) : stmtT s = stmtT2 s := by
  unfold stmtT stmtT2
  rw [List.map_congr_left (fun n hn => dd_dd2 (by have := (told_nums h).2 n hn; omega))]

/-- The statement of a word. -/
def valT (x : List UInt8) : Int := x.foldl (fun a c => a * 10 + ((c.toNat : Int) - 48)) 0
def unletter (c : UInt8) : Int := if c = 115 then 1 else if c = 99 then 2 else if c = 98 then 3 else if c = 108 then 4 else if c = 109 then 5 else if c = 116 then 6 else if c = 106 then 7 else if c = 107 then 8 else 9
def unT (w : List UInt8) : Int × Int × Int :=
  match w with
  | [] => (0, 0, 0)
  | c :: r =>
    let ns := (splitT 44 r).map valT
    if unletter c = 7 ∨ unletter c = 8 then (unletter c, 0, ns.getD 0 0) else (unletter c, ns.getD 0 0, ns.getD 1 0)

def rightT : Bool := (List.range 10).all fun k => (List.range 6).all fun x => (List.range 12).all fun y =>
  !(stmtOk k x y) || (unT (stmtT2 ⟨k, x, y⟩) == ((k : Int), (x : Int), (y : Int)) && (stmtT2 ⟨k, x, y⟩).all fun c => c != 32 && c != 59)
theorem rightT_yes : rightT = true := by decide +kernel

theorem right_word {s : Stm} (h : stmtOk s.k s.x s.y = true) : unT (stmtT s) = (s.k, s.x, s.y) ∧ (32 : UInt8) ∉ stmtT s ∧ (59 : UInt8) ∉ stmtT s := by
  obtain ⟨a1, a2, a3, a4, a5, a6⟩ := stmtOk_nums h
  rw [stmtT_two h]
  have h0 := rightT_yes
  unfold rightT at h0
  have h1 := List.all_eq_true.1 h0 s.k.toNat (List.mem_range.2 (by omega))
  have h2 := List.all_eq_true.1 h1 s.x.toNat (List.mem_range.2 (by omega))
  have h3 := List.all_eq_true.1 h2 s.y.toNat (List.mem_range.2 (by omega))
  obtain ⟨k, x, y⟩ := s
  simp only at a1 a2 a3 a4 a5 a6 h h3 ⊢
  have ek : ((k.toNat : Nat) : Int) = k := by omega
  have ex : ((x.toNat : Nat) : Int) = x := by omega
  have ey : ((y.toNat : Nat) : Int) = y := by omega
  rw [ek, ex, ey, h] at h3
  simp only [Bool.not_true, Bool.false_or, Bool.and_eq_true, beq_iff_eq] at h3
  refine ⟨h3.1, fun hm => ?_, fun hm => ?_⟩
  · have := List.all_eq_true.1 h3.2 _ hm
    exact absurd this (by decide)
  · have := List.all_eq_true.1 h3.2 _ hm
    exact absurd this (by decide)

theorem stmtT_inj {s t : Stm} (h : stmtOk s.k s.x s.y = true) (h' : stmtOk t.k t.x t.y = true) (e : stmtT s = stmtT t) : s = t := by
  have h1 := (right_word h).1
  rw [e, (right_word h').1] at h1
  obtain ⟨k, x, y⟩ := s
  obtain ⟨k', x', y'⟩ := t
  simp only [Prod.mk.injEq] at h1
  obtain ⟨rfl, rfl, rfl⟩ := h1
  rfl

/-- The words of a text. -/
def wordsT (s : List UInt8) : List (List (List UInt8)) := (splitT 59 s).map (splitT 32)

theorem joinT_not {c sep : UInt8} (hc : c ≠ sep) : ∀ (xs : List (List UInt8)), (∀ x ∈ xs, c ∉ x) → c ∉ joinT sep xs
  | [], _ => by simp [joinT]
  | [x], h => h x (by simp)
  | x :: y :: xs, h => by
    have ih := joinT_not hc (y :: xs) (fun z hz => h z (List.mem_cons_of_mem _ hz))
    rw [joinT]
    simp only [List.mem_append, List.mem_cons, not_or]
    exact ⟨h x (by simp), hc, ih⟩

/-- Each statement of a right program is right, and no procedure is empty. -/
theorem program_parts {ps : List (List Stm)} (h : programOk ps = true) : ps ≠ [] ∧ ∀ p ∈ ps, p ≠ [] ∧ ∀ s ∈ p, stmtOk s.k s.x s.y = true := by
  unfold programOk at h
  simp only [Bool.and_eq_true, decide_eq_true_eq] at h
  obtain ⟨⟨h1, h2⟩, h3⟩ := h
  refine ⟨fun e => by subst e; simp at h1, fun p hp => ?_⟩
  have := List.all_eq_true.1 h3 p hp
  unfold partOk at this
  simp only [Bool.and_eq_true] at this
  have hp1 : procOk p = true := this.1
  refine ⟨fun e => by subst e; simp [procOk] at hp1, fun s hs => procOk_stm hp1 hs⟩

theorem words_show {ps : List (List Stm)} (h : programOk ps = true) : wordsT (showT ps) = ps.map (fun p => p.map stmtT) := by
  obtain ⟨h0, hp⟩ := program_parts h
  unfold wordsT showT
  rw [splitT_join 59 _ (by simpa using h0) ?_]
  · rw [List.map_map]
    refine List.map_congr_left (fun p hpp => ?_)
    obtain ⟨hn, hs⟩ := hp p hpp
    show splitT 32 (procT p) = _
    unfold procT
    refine splitT_join 32 _ (by simpa using hn) (fun x hx => ?_)
    obtain ⟨s, hss, rfl⟩ := List.mem_map.1 hx
    exact (right_word (hs s hss)).2.1
  · intro x hx
    obtain ⟨p, hpp, rfl⟩ := List.mem_map.1 hx
    unfold procT
    refine joinT_not (by decide) _ (fun x hx => ?_)
    obtain ⟨s, hss, rfl⟩ := List.mem_map.1 hx
    exact (right_word ((hp p hpp).2 s hss)).2.2

theorem show_words {ps : List (List Stm)} {s : List UInt8} (h : ps.map (fun p => p.map stmtT) = wordsT s) : showT ps = s := by
  have e : (ps.map (fun p => p.map stmtT)).map (joinT 32) = ps.map procT := by
    rw [List.map_map]
    rfl
  unfold showT
  rw [← e, h]
  unfold wordsT
  rw [List.map_map]
  have : (splitT 59 s).map (joinT 32 ∘ splitT 32) = splitT 59 s := by
    have h9 : ∀ x ∈ splitT 59 s, (joinT 32 ∘ splitT 32) x = id x := fun x _ => join_splitT 32 x
    rw [List.map_congr_left h9, List.map_id]
  rw [this, join_splitT]

theorem map_inj_on {α β : Type} {f : α → β} {P : α → Prop} (hf : ∀ a b, P a → P b → f a = f b → a = b) : ∀ (xs ys : List α), (∀ a ∈ xs, P a) → (∀ a ∈ ys, P a) → xs.map f = ys.map f → xs = ys
  | [], [], _, _, _ => rfl
  | [], _ :: _, _, _, h => by simp at h
  | _ :: _, [], _, _, h => by simp at h
  | a :: xs, b :: ys, h1, h2, h => by
    simp only [List.map_cons, List.cons.injEq] at h
    rw [hf a b (h1 a (by simp)) (h2 b (by simp)) h.1, map_inj_on hf xs ys (fun c hc => h1 c (List.mem_cons_of_mem _ hc)) (fun c hc => h2 c (List.mem_cons_of_mem _ hc)) h.2]

/-- Two right programs of one text are the same. -/
theorem showT_inj {ps qs : List (List Stm)} (h : programOk ps = true) (h' : programOk qs = true) (e : showT ps = showT qs) : ps = qs := by
  have h1 := words_show h
  rw [e, words_show h'] at h1
  refine map_inj_on (P := fun p => ∀ s ∈ p, stmtOk s.k s.x s.y = true) (fun a b ha hb hab => ?_) ps qs (fun p hp => ((program_parts h).2 p hp).2) (fun p hp => ((program_parts h').2 p hp).2) h1.symm
  exact map_inj_on (P := fun s => stmtOk s.k s.x s.y = true) (fun s t hs ht hst => stmtT_inj hs ht hst) a b ha hb hab

/-- What ReadProgram answers: the right program that is shown as this text, if there is one. -/
def IsRead (s : List UInt8) (r : Option (List (List Stm))) : Prop := match r with
  | some ps => programOk ps = true ∧ showT ps = s
  | none => ∀ ps, programOk ps = true → showT ps ≠ s

theorem isRead_uniq {s : List UInt8} {r r' : Option (List (List Stm))} (h : IsRead s r) (h' : IsRead s r') : r = r' := by
  cases r with
  | none =>
    cases r' with
    | none => rfl
    | some ps => exact absurd h'.2 (h ps h'.1)
  | some ps =>
    cases r' with
    | none => exact absurd h.2 (h' ps h.1)
    | some qs => rw [showT_inj h.1 h'.1 (h.2.trans h'.2.symm)]

/-- What is read of the words, each a right one, is the program. -/
theorem isRead_words {s : List UInt8} {ps : List (List Stm)} (hw : ps.map (fun p => p.map stmtT) = wordsT s) (h : programOk ps = true) : IsRead s (some ps) := ⟨h, show_words hw⟩

/-- A text with a word that no right statement is shown as. -/
theorem isRead_no_word {s : List UInt8} {ws : List (List UInt8)} {w : List UInt8} (h1 : ws ∈ wordsT s) (h2 : w ∈ ws) (hn : ∀ t : Stm, stmtOk t.k t.x t.y = true → stmtT t ≠ w) : IsRead s none := by
  intro ps hp e
  rw [← e, words_show hp] at h1
  obtain ⟨p, hpp, rfl⟩ := List.mem_map.1 h1
  obtain ⟨t, ht, rfl⟩ := List.mem_map.1 h2
  exact hn t (((program_parts hp).2 p hpp).2 t ht) rfl

/-- All words right, but the whole is not. -/
theorem isRead_no_program {s : List UInt8} {ps : List (List Stm)} (hw : ps.map (fun p => p.map stmtT) = wordsT s) (hs : ∀ p ∈ ps, ∀ t ∈ p, stmtOk t.k t.x t.y = true) (h : programOk ps = false) : IsRead s none := by
  intro qs hq e
  have e2 : showT ps = showT qs := (show_words hw).trans e.symm
  rw [← e, words_show hq] at hw
  have e3 : ps = qs := map_inj_on (P := fun p => ∀ s ∈ p, stmtOk s.k s.x s.y = true) (fun a b ha hb hab => map_inj_on (P := fun s => stmtOk s.k s.x s.y = true) (fun s t hs ht hst => stmtT_inj hs ht hst) a b ha hb hab) ps qs hs (fun p hp => ((program_parts hq).2 p hp).2) hw
  rw [e3, hq] at h
  cases h

/-- The program's way: what is read of a text is shown again. -/
theorem isRead_again {s : List UInt8} {ps : List (List Stm)} (hs : s ≠ []) (h : ∀ qs, programOk qs = true → showT qs = s → ps = qs) : IsRead s (if showA ps = s then some ps else none) := by
  split
  · next e =>
    unfold showA at e
    split at e
    · next hp => exact ⟨hp, e⟩
    · exact absurd e.symm hs
  · next e =>
    intro qs hq eq
    have := h qs hq eq
    subst this
    exact e (by unfold showA; rw [if_pos hq]; exact eq)

/-- Only short texts are read, and none that is empty. -/
theorem showT_len {ps : List (List Stm)} (h : programOk ps = true) : (showT ps).length ≤ 400 := by
  have h0 := h
  unfold programOk at h0
  simp only [Bool.and_eq_true, decide_eq_true_eq] at h0
  obtain ⟨⟨h1, h2⟩, h3⟩ := h0
  have := joinT_len 59 96 (ps.map procT) (fun x hx => by
    obtain ⟨p, hp, rfl⟩ := List.mem_map.1 hx
    have hp9 := List.all_eq_true.1 h3 p hp
    unfold partOk at hp9
    simp only [Bool.and_eq_true] at hp9
    have hp1 : procOk p = true := hp9.1
    have hp0 := hp1
    unfold procOk at hp0
    simp only [Bool.and_eq_true, decide_eq_true_eq] at hp0
    exact procT_len hp0.1.1.2 (fun s hs => procOk_stm hp1 hs))
  unfold showT
  simp only [List.length_map] at this
  omega

theorem isRead_long {s : List UInt8} (h : 400 < s.length) : IsRead s none := by
  intro ps hp e
  have := showT_len hp
  rw [e] at this
  omega

theorem isRead_nothing : IsRead [] none := by
  intro ps hp e
  have h1 := words_show hp
  rw [e] at h1
  obtain ⟨h0, hp2⟩ := program_parts hp
  have h2 : wordsT [] = [[[]]] := rfl
  rw [h2] at h1
  have h3 : ([] : List UInt8) ∈ ([[[]]] : List (List (List UInt8))).flatten := by simp
  rw [h1] at h3
  obtain ⟨l, hl, hm⟩ := List.mem_flatten.1 h3
  obtain ⟨p, hpp, rfl⟩ := List.mem_map.1 hl
  obtain ⟨t, ht, h4⟩ := List.mem_map.1 hm
  unfold stmtT at h4
  cases h4

end Go.Proofs.YtldagpfeaabcdaaGreatDoor

/-
  Chapter 14, mathematics: procedures of one Content have one table.
-/
namespace Go.Proofs.YtldagpfeaabcdaaGreatDoor
open Go.RowKit
set_option linter.unusedVariables false
set_option linter.unusedSimpArgs false
set_option maxHeartbeats 1000000

/-- Pairs of numbers, flat, of each of which Q is so. -/
def PairsA (Q : Nat → Nat → Prop) (L : List Int) : Prop := ∃ n, L.length = 2 * n ∧ ∀ j, j < n → ∃ a b : Nat, L[2 * j]? = some (a : Int) ∧ L[2 * j + 1]? = some (b : Int) ∧ Q a b
theorem PairsA.nil (Q : Nat → Nat → Prop) : PairsA Q [] := ⟨0, rfl, fun j h => by omega⟩
theorem PairsA.one {Q : Nat → Nat → Prop} {a b : Nat} (h : Q a b) : PairsA Q [(a : Int), (b : Int)] := ⟨1, rfl, fun j hj => by
  obtain rfl : j = 0 := by omega
  exact ⟨a, b, rfl, rfl, h⟩⟩
theorem PairsA.append {Q : Nat → Nat → Prop} {L M : List Int} (h : PairsA Q L) (k : PairsA Q M) : PairsA Q (L ++ M) := by
  obtain ⟨n, h1, h2⟩ := h
  obtain ⟨m, k1, k2⟩ := k
  refine ⟨n + m, by rw [List.length_append]; omega, fun j hj => ?_⟩
  by_cases hjn : j < n
  · obtain ⟨a, b, e1, e2, e3⟩ := h2 j hjn
    exact ⟨a, b, by rw [List.getElem?_append_left (by omega)]; exact e1, by rw [List.getElem?_append_left (by omega)]; exact e2, e3⟩
  · obtain ⟨a, b, e1, e2, e3⟩ := k2 (j - n) (by omega)
    refine ⟨a, b, ?_, ?_, e3⟩
    · rw [List.getElem?_append_right (by omega), show 2 * j - L.length = 2 * (j - n) by omega]; exact e1
    · rw [List.getElem?_append_right (by omega), show 2 * j + 1 - L.length = 2 * (j - n) + 1 by omega]; exact e2
theorem rowA_pairs {Q : Nat → Nat → Prop} {P : Nat → Nat → Bool} {i : Nat} : ∀ k, (∀ b, b < k → P i b = true → Q i b) → PairsA Q (rowA P i k)
  | 0, _ => PairsA.nil Q
  | k + 1, h => by
    unfold rowA
    refine (rowA_pairs k (fun b hb => h b (by omega))).append ?_
    split
    · rename_i hp
      exact PairsA.one (h k (by omega) hp)
    · exact PairsA.nil Q
theorem allA_pairs {Q : Nat → Nat → Prop} {P : Nat → Nat → Bool} {m : Nat} : ∀ i, (∀ a b, a < i → b < m → P a b = true → Q a b) → PairsA Q (allA P m i)
  | 0, _ => PairsA.nil Q
  | i + 1, h => by
    unfold allA
    exact (allA_pairs i (fun a b ha => h a b (by omega))).append (rowA_pairs m (fun b hb => h i b (by omega) hb))

/-- What is so of each pair that Alike tells. -/
def LikeQ (p1 p2 : List (List Stm)) (a b : Nat) : Prop := programOk p1 = true ∧ programOk p2 = true ∧ a < p1.length ∧ b < p2.length ∧ conA p1 (a : Int) = conA p2 (b : Int)
theorem alikeA_pairs (p1 p2 : List (List Stm)) : PairsA (LikeQ p1 p2) (alikeA p1 p2) := by
  unfold alikeA
  split
  · rename_i h
    simp only [Bool.and_eq_true] at h
    exact allA_pairs _ (fun a b ha hb hp => ⟨h.1, h.2, ha, hb, by unfold sameC at hp; simpa using hp⟩)
  · exact PairsA.nil _

theorem hasB_at {ps : List (List Stm)} (hok : programOk ps = true) {a : Nat} (ha : a < ps.length) : hasB ps (a : Int) = true := by
  unfold hasB wiB
  rw [hok]
  simp
  omega

theorem con_closure {p1 p2 : List (List Stm)} {i k : Int} (h1 : hasB p1 i = true) (h2 : hasB p2 k = true) (h : conA p1 i = conA p2 k) : cloA p1 i = cloA p2 k := by
  have k1 : programOk (cloA p1 i) = true := by rw [cloA_yes h1]; exact cloA_ok h1
  have k2 : programOk (cloA p2 k) = true := by rw [cloA_yes h2]; exact cloA_ok h2
  unfold conA showA at h
  rw [if_pos k1, if_pos k2] at h
  exact showT_inj k1 k2 h

theorem like_tables {c : Int} (hc : c = 1 ∨ c = 2) {p1 p2 : List (List Stm)} {a b : Nat} (h : LikeQ p1 p2 a b) {T U : List (List Int)} (hT : IsTables c p1 T) (hU : IsTables c p2 U) : T.getD a [] = U.getD b [] := by
  obtain ⟨o1, o2, ha, hb, hcon⟩ := h
  have h1 := hasB_at o1 ha
  have h2 := hasB_at o2 hb
  have e := con_closure h1 h2 hcon
  have k1 : programOk (cloA p1 (a : Int)) = true := by rw [cloA_yes h1]; exact cloA_ok h1
  obtain ⟨V, _, hV⟩ := tables_some hc (canP_of k1)
  have e1 := table_clo hc h1 hT hV
  rw [e] at hV
  have e2 := table_clo hc h2 hU hV
  simp only [Int.toNat_natCast] at e1 e2
  rw [← e1, ← e2]

end Go.Proofs.YtldagpfeaabcdaaGreatDoor
