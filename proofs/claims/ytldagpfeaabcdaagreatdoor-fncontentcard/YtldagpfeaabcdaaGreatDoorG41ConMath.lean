/-
 Put together out of: ReadM, ConMath.
-/
import Derived.Test.YtldagpfeaabcdaaGreatDoorG40Alike14
import Derived.Test.YtldagpfeaabcdaaGreatDoorG38CloMath2
namespace Go.Proofs.YtldagpfeaabcdaaGreatDoor
open Go.RowKit
set_option linter.unusedVariables false
set_option linter.unusedSimpArgs false
def jm8 (sep : UInt8) : List UInt8 → List (List UInt8)
 | [] => [[]]
 | c :: cs => if c = sep then [] :: jm8 sep cs else
  match jm8 sep cs with
  | [] => [[c]]
  | x :: xs => (c :: x) :: xs
theorem splitT_sep (sep : UInt8) (cs : List UInt8) : jm8 sep (sep :: cs) = [] :: jm8 sep cs := by
 rw [jm8, if_pos rfl]
theorem qc2 {sep c : UInt8} (h : c ≠ sep) {cs x : List UInt8} {xs : List (List UInt8)} (hs : jm8 sep cs = x :: xs) : jm8 sep (c :: cs) = (c :: x) :: xs := by
 rw [jm8, if_neg h, hs]
theorem qb9 (sep : UInt8) : ∀ (x : List UInt8), sep ∉ x → jm8 sep x = [x]
 | [], _ => rfl
 | c :: cs, h => by
  simp only [List.mem_cons, not_or] at h
  exact qc2 (fun e => h.1 e.symm) (qb9 sep cs h.2)
theorem jz5 (sep : UInt8) : ∀ (x s : List UInt8), sep ∉ x → jm8 sep (x ++ sep :: s) = x :: jm8 sep s
 | [], s, _ => splitT_sep sep s
 | c :: cs, s, h => by
  simp only [List.mem_cons, not_or] at h
  exact qc2 (fun e => h.1 e.symm) (jz5 sep cs s h.2)
theorem ju9 (sep : UInt8) : ∀ (xs : List (List UInt8)), xs ≠ [] → (∀ x ∈ xs, sep ∉ x) → jm8 sep (jc9 sep xs) = xs
 | [], h, _ => absurd rfl h
 | [x], _, h => qb9 sep x (h x (by simp))
 | x :: y :: xs, _, h => by
  rw [jc9, jz5 sep x _ (h x (by simp)), ju9 sep (y :: xs) (by simp) (fun z hz => h z (List.mem_cons_of_mem _ hz))]
def dd2 (n : Nat) : List UInt8 := if n < 10 then [UInt8.ofNat (48 + n)] else [UInt8.ofNat (48 + n / 10), UInt8.ofNat (48 + n % 10)]
theorem dd_dd2 {n : Int} (h : n < 100) : dd n = dd2 n.toNat := by
 unfold dd dd2
 rw [Lib.decDigits]
 split
 · rfl
 · rw [Lib.decDigits, dif_pos (by omega)]
   rfl
def stmtT2 (s : Stm) : List UInt8 := jm7 s.k :: jc9 44 ((told s).map (fun n => dd2 n.toNat))
theorem stmtT_two {s : Stm} (h : jd7 s.k s.x s.y = true) : je9 s = stmtT2 s := by
 unfold je9 stmtT2
 rw [List.map_congr_left (fun n hn => dd_dd2 (by have := (qd0 h).2 n hn; omega))]
def valT (x : List UInt8) : Int := x.foldl (fun a c => a * 10 + ((c.toNat : Int) - 48)) 0
def qa7 (c : UInt8) : Int := if c = 115 then 1 else if c = 99 then 2 else if c = 98 then 3 else if c = 108 then 4 else if c = 109 then 5 else if c = 116 then 6 else if c = 106 then 7 else if c = 107 then 8 else 9
def unT (w : List UInt8) : Int × Int × Int :=
 match w with
 | [] => (0, 0, 0)
 | c :: r =>
  let ns := (jm8 44 r).map valT
  if qa7 c = 7 ∨ qa7 c = 8 then (qa7 c, 0, ns.getD 0 0) else (qa7 c, ns.getD 0 0, ns.getD 1 0)
def rightT : Bool := (List.range 10).all fun k => (List.range 6).all fun x => (List.range 12).all fun y =>
 !(jd7 k x y) || (unT (stmtT2 ⟨k, x, y⟩) == ((k : Int), (x : Int), (y : Int)) && (stmtT2 ⟨k, x, y⟩).all fun c => c != 32 && c != 59)
theorem rightT_yes : rightT = true := by decide +kernel
theorem js6 {s : Stm} (h : jd7 s.k s.x s.y = true) : unT (je9 s) = (s.k, s.x, s.y) ∧ (32 : UInt8) ∉ je9 s ∧ (59 : UInt8) ∉ je9 s := by
 obtain ⟨a1, a2, a3, a4, a5, a6⟩ := jo0 h
 rw [stmtT_two h]
 have h0 := rightT_yes
 unfold rightT at h0
 have h1 := List.all_eq_true.1 h0 s.k.toNat (List.mem_range.2 (by omega))
 have h2 := List.all_eq_true.1 h1 s.x.toNat (List.mem_range.2 (by omega))
 have h3 := List.all_eq_true.1 h2 s.y.toNat (List.mem_range.2 (by omega))
 obtain ⟨k, x, y⟩ := s
 simp only at a1 a2 a3 a4 a5 a6 h h3 ⊢
 have ek : ((k.toNat : Nat) : Int) = k := by omega
 have ex : ((x.toNat : Nat) : Int) = x := by omega
 have ey : ((y.toNat : Nat) : Int) = y := by omega
 rw [ek, ex, ey, h] at h3
 simp only [Bool.not_true, Bool.false_or, Bool.and_eq_true, beq_iff_eq] at h3
 refine ⟨h3.1, fun hm => ?_, fun hm => ?_⟩
 · have := List.all_eq_true.1 h3.2 _ hm
   exact absurd this (by decide)
 · have := List.all_eq_true.1 h3.2 _ hm
   exact absurd this (by decide)
theorem stmtT_inj {s t : Stm} (h : jd7 s.k s.x s.y = true) (h' : jd7 t.k t.x t.y = true) (e : je9 s = je9 t) : s = t := by
 have h1 := (js6 h).1
 rw [e, (js6 h').1] at h1
 obtain ⟨k, x, y⟩ := s
 obtain ⟨k', x', y'⟩ := t
 simp only [Prod.mk.injEq] at h1
 obtain ⟨rfl, rfl, rfl⟩ := h1
 rfl
def wordsT (s : List UInt8) : List (List (List UInt8)) := (jm8 59 s).map (jm8 32)
theorem joinT_not {c sep : UInt8} (hc : c ≠ sep) : ∀ (xs : List (List UInt8)), (∀ x ∈ xs, c ∉ x) → c ∉ jc9 sep xs
 | [], _ => by simp [jc9]
 | [x], h => h x (by simp)
 | x :: y :: xs, h => by
  have ih := joinT_not hc (y :: xs) (fun z hz => h z (List.mem_cons_of_mem _ hz))
  rw [jc9]
  simp only [List.mem_append, List.mem_cons, not_or]
  exact ⟨h x (by simp), hc, ih⟩
theorem jp9 {ps : List (List Stm)} (h : ja5 ps = true) : ps ≠ [] ∧ ∀ p ∈ ps, p ≠ [] ∧ ∀ s ∈ p, jd7 s.k s.x s.y = true := by
 unfold ja5 at h
 simp only [Bool.and_eq_true, decide_eq_true_eq] at h
 obtain ⟨⟨h1, h2⟩, h3⟩ := h
 refine ⟨fun e => by subst e; simp at h1, fun p hp => ?_⟩
 have := List.all_eq_true.1 h3 p hp
 unfold jj7 at this
 simp only [Bool.and_eq_true] at this
 have hp1 : je7 p = true := this.1
 refine ⟨fun e => by subst e; simp [je7] at hp1, fun s hs => ji1 hp1 hs⟩
theorem qf7 {ps : List (List Stm)} (h : ja5 ps = true) : wordsT (showT ps) = ps.map (fun p => p.map je9) := by
 obtain ⟨h0, hp⟩ := jp9 h
 unfold wordsT showT
 rw [ju9 59 _ (by simpa using h0) ?_]
 · rw [List.map_map]
   refine List.map_congr_left (fun p hpp => ?_)
   obtain ⟨hn, hs⟩ := hp p hpp
   show jm8 32 (jl6 p) = _
   unfold jl6
   refine ju9 32 _ (by simpa using hn) (fun x hx => ?_)
   obtain ⟨s, hss, rfl⟩ := List.mem_map.1 hx
   exact (js6 (hs s hss)).2.1
 · intro x hx
   obtain ⟨p, hpp, rfl⟩ := List.mem_map.1 hx
   unfold jl6
   refine joinT_not (by decide) _ (fun x hx => ?_)
   obtain ⟨s, hss, rfl⟩ := List.mem_map.1 hx
   exact (js6 ((hp p hpp).2 s hss)).2.2
theorem jy0 {α β : Type} {f : α → β} {P : α → Prop} (hf : ∀ a b, P a → P b → f a = f b → a = b) : ∀ (xs ys : List α), (∀ a ∈ xs, P a) → (∀ a ∈ ys, P a) → xs.map f = ys.map f → xs = ys
 | [], [], _, _, _ => rfl
 | [], _ :: _, _, _, h => by simp at h
 | _ :: _, [], _, _, h => by simp at h
 | a :: xs, b :: ys, h1, h2, h => by
  simp only [List.map_cons, List.cons.injEq] at h
  rw [hf a b (h1 a (by simp)) (h2 b (by simp)) h.1, jy0 hf xs ys (fun c hc => h1 c (List.mem_cons_of_mem _ hc)) (fun c hc => h2 c (List.mem_cons_of_mem _ hc)) h.2]
theorem showT_inj {ps qs : List (List Stm)} (h : ja5 ps = true) (h' : ja5 qs = true) (e : showT ps = showT qs) : ps = qs := by
 have h1 := qf7 h
 rw [e, qf7 h'] at h1
 refine jy0 (P := fun p => ∀ s ∈ p, jd7 s.k s.x s.y = true) (fun a b ha hb hab => ?_) ps qs (fun p hp => ((jp9 h).2 p hp).2) (fun p hp => ((jp9 h').2 p hp).2) h1.symm
 exact jy0 (P := fun s => jd7 s.k s.x s.y = true) (fun s t hs ht hst => stmtT_inj hs ht hst) a b ha hb hab
end Go.Proofs.YtldagpfeaabcdaaGreatDoor
namespace Go.Proofs.YtldagpfeaabcdaaGreatDoor
open Go.RowKit
set_option linter.unusedVariables false
set_option linter.unusedSimpArgs false
set_option maxHeartbeats 1000000
def PairsA (Q : Nat → Nat → Prop) (L : List Int) : Prop := ∃ n, L.length = 2 * n ∧ ∀ j, j < n → ∃ a b : Nat, L[2 * j]? = some (a : Int) ∧ L[2 * j + 1]? = some (b : Int) ∧ Q a b
theorem PairsA.nil (Q : Nat → Nat → Prop) : PairsA Q [] := ⟨0, rfl, fun j h => by omega⟩
theorem PairsA.one {Q : Nat → Nat → Prop} {a b : Nat} (h : Q a b) : PairsA Q [(a : Int), (b : Int)] := ⟨1, rfl, fun j hj => by
 obtain rfl : j = 0 := by omega
 exact ⟨a, b, rfl, rfl, h⟩⟩
theorem PairsA.append {Q : Nat → Nat → Prop} {L M : List Int} (h : PairsA Q L) (k : PairsA Q M) : PairsA Q (L ++ M) := by
 obtain ⟨n, h1, h2⟩ := h
 obtain ⟨m, k1, k2⟩ := k
 refine ⟨n + m, by rw [List.length_append]; omega, fun j hj => ?_⟩
 by_cases hjn : j < n
 · obtain ⟨a, b, e1, e2, e3⟩ := h2 j hjn
   exact ⟨a, b, by rw [List.getElem?_append_left (by omega)]; exact e1, by rw [List.getElem?_append_left (by omega)]; exact e2, e3⟩
 · obtain ⟨a, b, e1, e2, e3⟩ := k2 (j - n) (by omega)
   refine ⟨a, b, ?_, ?_, e3⟩
   · rw [List.getElem?_append_right (by omega), show 2 * j - L.length = 2 * (j - n) by omega]; exact e1
   · rw [List.getElem?_append_right (by omega), show 2 * j + 1 - L.length = 2 * (j - n) + 1 by omega]; exact e2
theorem qg0 {Q : Nat → Nat → Prop} {P : Nat → Nat → Bool} {i : Nat} : ∀ k, (∀ b, b < k → P i b = true → Q i b) → PairsA Q (rowA P i k)
 | 0, _ => PairsA.nil Q
 | k + 1, h => by
  unfold rowA
  refine (qg0 k (fun b hb => h b (by omega))).append ?_
  split
  · rename_i hp
    exact PairsA.one (h k (by omega) hp)
  · exact PairsA.nil Q
theorem qh5 {Q : Nat → Nat → Prop} {P : Nat → Nat → Bool} {m : Nat} : ∀ i, (∀ a b, a < i → b < m → P a b = true → Q a b) → PairsA Q (allA P m i)
 | 0, _ => PairsA.nil Q
 | i + 1, h => by
  unfold allA
  exact (qh5 i (fun a b ha => h a b (by omega))).append (qg0 m (fun b hb => h i b (by omega) hb))
def LikeQ (p1 p2 : List (List Stm)) (a b : Nat) : Prop := ja5 p1 = true ∧ ja5 p2 = true ∧ a < p1.length ∧ b < p2.length ∧ conA p1 (a : Int) = conA p2 (b : Int)
theorem alikeA_pairs (p1 p2 : List (List Stm)) : PairsA (LikeQ p1 p2) (jl0 p1 p2) := by
 unfold jl0
 split
 · rename_i h
   simp only [Bool.and_eq_true] at h
   exact qh5 _ (fun a b ha hb hp => ⟨h.1, h.2, ha, hb, by unfold ji7 at hp; simpa using hp⟩)
 · exact PairsA.nil _
theorem hasB_at {ps : List (List Stm)} (hok : ja5 ps = true) {a : Nat} (ha : a < ps.length) : hasB ps (a : Int) = true := by
 unfold hasB wiB
 rw [hok]
 simp
 omega
theorem con_closure {p1 p2 : List (List Stm)} {i k : Int} (h1 : hasB p1 i = true) (h2 : hasB p2 k = true) (h : conA p1 i = conA p2 k) : cloA p1 i = cloA p2 k := by
 have k1 : ja5 (cloA p1 i) = true := by rw [jo4 h1]; exact jt2 h1
 have k2 : ja5 (cloA p2 k) = true := by rw [jo4 h2]; exact jt2 h2
 unfold conA jv4 at h
 rw [if_pos k1, if_pos k2] at h
 exact showT_inj k1 k2 h
theorem like_tables {c : Int} (hc : c = 1 ∨ c = 2) {p1 p2 : List (List Stm)} {a b : Nat} (h : LikeQ p1 p2 a b) {T U : List (List Int)} (hT : IsTables c p1 T) (hU : IsTables c p2 U) : T.getD a [] = U.getD b [] := by
 obtain ⟨o1, o2, ha, hb, hcon⟩ := h
 have h1 := hasB_at o1 ha
 have h2 := hasB_at o2 hb
 have e := con_closure h1 h2 hcon
 have k1 : ja5 (cloA p1 (a : Int)) = true := by rw [jo4 h1]; exact jt2 h1
 obtain ⟨V, _, hV⟩ := qb7 hc (canP_of k1)
 have e1 := jw4 hc h1 hT hV
 rw [e] at hV
 have e2 := jw4 hc h2 hU hV
 simp only [Int.toNat_natCast] at e1 e2
 rw [← e1, ← e2]
end Go.Proofs.YtldagpfeaabcdaaGreatDoor
