/-
  Chapter 17, mathematics: what came is served in the order in which it came, each once.
-/
import Derived.Test.YtjlpjjddnkceoaaQueTurnM
import Derived.Test.YtjlpjjddnkceoaaQueLen
namespace Go.Proofs.Ytjlpjjddnkceoaa
open Go.RowKit
set_option linter.unusedVariables false
set_option linter.unusedSimpArgs false

theorem came_cases {t T s n : Int} {X Y : List (List Int)} {B : Bool} (h : cameA t X s n = (T, Y, B)) :
    (queB t X = false ∧ T = 0 ∧ Y = [] ∧ B = false) ∨ (queB t X = true ∧ T = t ∧ Y = X ∧ B = false) ∨
    ∃ j : Nat, queB t X = true ∧ B = true ∧ s = (j : Int) ∧ j < 8 ∧ T = t ∧ Y = X.set j (X.getD j [] ++ [n]) ∧ queB t Y = true := by
  unfold cameA at h
  cases hq : queB t X with
  | false =>
    rw [hq] at h
    simp at h
    obtain ⟨rfl, rfl, rfl⟩ := h
    exact .inl ⟨rfl, rfl, rfl, rfl⟩
  | true =>
    rw [hq] at h
    simp only [Bool.true_eq_false, if_false] at h
    split at h
    · rename_i hc
      simp only [Prod.mk.injEq] at h
      obtain ⟨rfl, rfl, rfl⟩ := h
      simp only [Bool.and_eq_true, Bool.not_eq_true', decide_eq_false_iff_not] at hc
      obtain ⟨h1, h2, h3⟩ := hc
      have h4 := inB_iffQ.1 h1
      obtain ⟨j, rfl⟩ : ∃ j : Nat, s = (j : Int) := ⟨s.toNat, by omega⟩
      simp only [Int.toNat_natCast] at h3
      refine .inr (.inr ⟨j, rfl, rfl, rfl, by omega, rfl, rfl, ?_⟩)
      show queB t (X.set j (X.getD j [] ++ [n])) = true
      unfold queB at hq ⊢
      simp only [Bool.and_eq_true, decide_eq_true_eq, List.all_eq_true] at hq ⊢
      obtain ⟨g1, g2, g3⟩ := hq
      refine ⟨g1, by simpa using g2, fun x hx => ?_⟩
      rcases List.mem_or_eq_of_mem_set hx with hx | hx
      · exact g3 x hx
      · subst hx
        have hjX : j < X.length := by omega
        have e : X.getD j [] = X[j] := by simp [List.getD, hjX]
        rw [e] at h3 ⊢
        have h5 := g3 _ (List.getElem_mem hjX)
        unfold lnB at h5 ⊢
        simp only [Bool.and_eq_true, decide_eq_true_eq, List.all_eq_true] at h5 ⊢
        refine ⟨by simp; omega, fun y hy => ?_⟩
        rcases List.mem_append.1 hy with hy | hy
        · exact h5.2 y hy
        · have : y = n := by simpa using hy
          rw [this]; exact h2
    · simp only [Prod.mk.injEq] at h
      obtain ⟨rfl, rfl, rfl⟩ := h
      exact .inr (.inl ⟨rfl, rfl, rfl, rfl⟩)

theorem tot_set : ∀ (X : List (List Int)) (j : Nat) (v : List Int), j < X.length → tot (X.set j v) + (X.getD j []).length = tot X + v.length
  | [], j, v, h => by simp at h
  | x :: X, 0, v, h => by simp [tot]; omega
  | x :: X, j + 1, v, h => by
    have h1 := tot_set X j v (by simpa using h)
    simp only [List.set_cons_succ, tot, List.getD_cons_succ]
    omega

theorem tot_zero : ∀ (X : List (List Int)), (∀ j, j < X.length → X.getD j [] = []) → tot X = 0
  | [], _ => rfl
  | x :: X, h => by
    have h1 := tot_zero X (fun j hj => by simpa using h (j + 1) (by simpa using hj))
    have h2 := h 0 (by simp)
    simp at h2
    simp [tot, h1, h2]

theorem tot_none : ∀ (X : List (List Int)), tot X = 0 → ∀ j, X.getD j [] = []
  | [], _, j => by simp
  | x :: X, h, 0 => by
    simp only [tot] at h
    simp only [List.getD_cons_zero]
    exact List.eq_nil_of_length_eq_zero (by omega)
  | x :: X, h, j + 1 => by
    simp only [tot] at h
    simpa using tot_none X (by omega) j

theorem fst17_tot {X : List (List Int)} {τ : Nat} (hτ : τ ≤ 7) (h8 : X.length = 8) (h : 0 < tot X) : ∃ k, fst17 X τ = some k := by
  cases hf : fst17 X τ with
  | some k => exact ⟨k, rfl⟩
  | none =>
    have := tot_zero X (fun j hj => fst17_no hf hτ j (by omega))
    omega

theorem serv_none {τ : Nat} {X : List (List Int)} (h : tot X = 0) (hq : queB (τ : Int) X = true) : servA (τ : Int) X = ((τ : Int), X, -1, 0) := by
  have hf : fst17 X τ = none := fst17_none (fun i _ => tot_none X h _)
  unfold servA
  rw [hq, Int.toNat_natCast, hf]
  rfl

/-- What the loop of FnQueues has in hand: m are served, S of them of the one session j. -/
structure FQ (W3 : World) (bX : Nat) (Z : List Int) (all j m τ : Nat) (X : List (List Int) × List Int) (us : List Value) (xv a : Value) (W : World) : Prop where
  low : Below W3.heap.size W3 W
  box : W.heap[bX]? = some (.cells #[.int .i64 (τ : Int), xv] 26 (0, 0))
  own : OwnQ W 0 xv us X.1
  serv : W.ownsRow W3.heap.size 2 1 a X.2.length (ints X.2)
  hq : queB (τ : Int) X.1 = true
  cnt : tot X.1 + m = all
  row : X.2 ++ X.1.getD j [] = Z

/-- One more is served. -/
theorem serve_more {X : List (List Int)} {τ j m all : Nat} {S Z : List Int} (hq : queB (τ : Int) X = true) (hc : tot X + m = all) (hr : S ++ X.getD j [] = Z) (hm : m < all) :
    ∃ (k i n : Nat) (x : Int) (L : List Int), fst17 X τ = some k ∧ i = (τ + k) % 8 ∧ i < 8 ∧ i < X.length ∧ X[i]? = some (x :: L) ∧ X.getD i [] = x :: L ∧ queB (((i + 1) % 8 : Nat) : Int) (X.set i L) = true ∧ tot (X.set i L) + (m + 1) = all ∧
      (i = j → (S ++ [x]) ++ (X.set i L).getD j [] = Z) ∧ (i ≠ j → S ++ (X.set i L).getD j [] = Z) := by
  obtain ⟨h0, h7, h8, -, -⟩ := queB_parts hq
  obtain ⟨k, hf⟩ := fst17_tot (X := X) (τ := τ) (by omega) h8 (by omega)
  obtain ⟨hk, hne, -⟩ := fst17_inv hf
  obtain ⟨i, hi⟩ : ∃ i, i = (τ + k) % 8 := ⟨_, rfl⟩
  rw [← hi] at hne
  have hi8 : i < 8 := by omega
  have hiX : i < X.length := by omega
  have hg : X.getD i [] = X[i] := by simp [List.getD, hiX]
  cases hx : X[i] with
  | nil => rw [hg, hx] at hne; exact absurd rfl hne
  | cons x L =>
    rw [hx] at hg
    have h1 := queB_tail hq (q := (i + 1) % 8) (j := i) (by omega) hi8
    rw [hg] at h1
    have h2 := tot_set X i L hiX
    rw [hg] at h2
    refine ⟨k, i, 0, x, L, hf, hi, hi8, hiX, by rw [List.getElem?_eq_getElem hiX, hx], hg, h1, by simp at h2; omega, fun e => ?_, fun e => ?_⟩
    · subst e
      rw [getD_setL _ _ _ _ _ hiX, if_pos rfl, ← hr, hg]
      simp
    · rw [getD_setL _ _ _ _ _ hiX, if_neg e]
      exact hr

section
variable {P : Program}
theorem wpList_append_anyG {Q : Exit → Act → World → Prop} {ops : Array Oper} {rest : List Oper} {o : Oper} {a : Act} (w : World) (hw : Region.wanted o (yielded ops a.tmps) = true) (s x : Operand) (t : TypeId)
    (ho : o.op = .call { callee := .builtin .append, args := #[s, x], argTypes := #[t, t] })
    (base : Nat) (e : TypeId) (i : TypeInfo) (z : Value) (size bytes : Nat) (ht : P.underlying t = some (.slice e)) (hi : P.info? e = some i) (hz : i.zero = some z)
    (hsize : i.size = size) (hby : i.bytes = bytes) (hzs : z.cells.size = size) (hsz : 0 < size)
    (v : Value) (n : Nat) (xs : List Value) (hs : a.eval s = v) (hown : w.ownsRow base e size v n xs)
    (xo : Option Addr) (m c : Nat) (news : List Value) (hx : a.eval x = .slice xo m c) (hl : news.length = m * size) (hnews : 0 < m → ∃ ad, xo = some ad ∧ ∀ j u, news[j]? = some u → w.cell? (ad.add j) = some u) (h1 : ∀ u ∈ news, u.oneCell' = true)
    (h63 : n + m ≤ maxLen) (hbytes : (n + m) * bytes ≤ 140737488355328) (hbase : base ≤ w.heap.size)
    (h : ∀ v' w', w'.ownsRow base e size v' (n + m) (xs ++ news) → w.grownBy w' v.ownBlock → (∀ k, v'.ownBlock = some k → v.ownBlock = some k ∨ w.heap.size ≤ k) → wpList P ops Q rest (a.put o.dst v') w') : wpList P ops Q (o :: rest) a w :=
  wpList_step fun K hK => by
    rw [if_pos hw]
    exact wp_append_anyQ w s x t ho base e i z size bytes ht hi hz hsize hby hzs hsz v n xs hs hown xo m c news hx hl hnews h1 h63 hbytes hbase (fun v' w' a1 a2 a3 => hK _ _ (h v' w' a1 a2 a3))
end

theorem reads_newsQ {w : World} {a : Option Addr} {n c : Nat} {xs : List Int} (h : Reads w (.slice a n c) (ints xs)) : n = xs.length ∧ (0 < xs.length → ∃ ad, a = some ad ∧ ∀ j u, (ints xs)[j]? = some u → w.cell? (ad.add j) = some u) := by
  obtain ⟨ao, cap, e, hc⟩ := h
  rw [ints_length] at e
  injection e with e1 e2 e3
  subst e1
  refine ⟨e2, fun h0 => ?_⟩
  obtain ⟨g, off, rfl, -⟩ := hc 0 (.int .i64 xs[0]) (by simp [ints, h0])
  refine ⟨_, rfl, fun j u hu => ?_⟩
  obtain ⟨g', off', e, hcell⟩ := hc j u hu
  injection e with e
  injection e with e1 e2 e3
  subst e1
  subst e2
  have hadd : (⟨g, off, none⟩ : Addr).add j = ⟨g, off + j, none⟩ := by unfold Addr.add; split <;> simp_all
  rw [hadd]
  exact hcell

end Go.Proofs.Ytjlpjjddnkceoaa
