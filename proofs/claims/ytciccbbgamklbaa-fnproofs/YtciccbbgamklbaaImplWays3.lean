/-
  impl.Ways: the two regions of its loop's body that draw their orders.
-/
import Derived.Test.YtciccbbgamklbaaImplWays2
namespace Go.Proofs.Ytciccbbgamklbaa
open Go.RowKit Go.Shelf
set_option linter.unusedVariables false
set_option linter.unusedSimpArgs false
set_option maxHeartbeats 4000000
set_option maxRecDepth 20000
attribute [local go_sem] Oper.semAt_some

def B6 (u : Value) (gc off q : Nat) (z i : Int) (l : Nat → Bool) (x25 x26 x27 x28 x29 x30 x31 x32 : Value) : Prop :=
  (l 0 = true → x25 = u) ∧ (l 1 = true → x26 = u) ∧ (l 2 = true → x27 = .int .i64 ((q : Int) + 1)) ∧ (l 3 = true → x28 = .int .i64 (q : Int)) ∧ (l 4 = true → x29 = .pointer (some ⟨gc, off + q, none⟩)) ∧ (l 5 = true → x30 = .int .i64 z) ∧ (l 6 = true → x31 = .int .i64 i) ∧ (l 7 = true → x32 = .bool (decide (z = i)))

def I6 (Bt Bw : Nat) (u : Value) (gc off q : Nat) (z i : Int) (W6 : World) (l : Nat → Bool) (a : Act) (wr : World) : Prop :=
  ∃ y0 y1 y2 y3 y5 y6 y9 y10 y11 y12 y13 y14 y15 y16 y17 y18 y19 y20 y21 y22 y23 y24 y33 y34 y35 y36 y37 y38 x25 x26 x27 x28 x29 x30 x31 x32 : Value, a = { tmps := List.toArray (y0 :: y1 :: y2 :: y3 :: .pointer (some ⟨Bt, 0, none⟩) :: y5 :: y6 :: .pointer (some ⟨Bw, 0, none⟩) :: u :: y9 :: y10 :: y11 :: y12 :: y13 :: y14 :: y15 :: y16 :: y17 :: y18 :: y19 :: y20 :: y21 :: y22 :: y23 :: y24 :: x25 :: x26 :: x27 :: x28 :: x29 :: x30 :: x31 :: x32 :: y33 :: y34 :: y35 :: y36 :: y37 :: y38 :: []), defers := [] } ∧ wr = W6 ∧ B6 u gc off q z i l x25 x26 x27 x28 x29 x30 x31 x32

def B7 (Bw : Nat) (u ov : Value) (us : List Value) (xss : List (List Int)) (way : List Int) (q base : Nat) (Ws : World) (l : Nat → Bool) (x33 x34 x35 x36 x37 : Value) (wr : World) : Prop :=
  (Ws.heap.size ≤ wr.heap.size ∧ wr.os = Ws.os ∧ wr.tape = Ws.tape ∧ wr.output = Ws.output) ∧
  (l 4 = false → Below Ws.heap.size Ws wr) ∧
  (l 4 = true → ∀ r, r < Ws.heap.size → r ≠ Bw → ov.ownBlock ≠ some r → wr.heap[r]? = Ws.heap[r]?) ∧
  (l 5 = false → wr.heap[Bw]? = some (.cells #[ov] 45 (0, 0))) ∧
  (l 5 = true → l 4 = true) ∧
  (l 4 = true → l 2 = true) ∧
  (l 4 = true → l 3 = true) ∧
  (l 3 = true → l 2 = true) ∧
  (l 4 = true → l 0 = true) ∧
  (l 0 = true → x33 = ov) ∧
  (l 1 = true → x34 = u) ∧
  (l 2 = true → ∃ g1 c1, x35 = .slice (some ⟨g1, 0, none⟩) (q + 1) c1 ∧ Ws.heap.size ≤ g1 ∧ (l 4 = false → wr.ownsRow base 2 1 x35 (q + 1) (ints way))) ∧
  (l 3 = true → ∃ b, x36 = .slice (some ⟨b, 0, none⟩) 1 1 ∧ (l 4 = false → wr.heap[b]? = some (.cells #[x35] 26 (0, 0)))) ∧
  (l 4 = true → ∃ g1 c1 g3 c3, x37 = .slice (some ⟨g3, 0, none⟩) (xss.length + 1) c3 ∧ OwnSS wr base x37 (us ++ [.slice (some ⟨g1, 0, none⟩) (q + 1) c1]) (xss ++ [way]) ∧ Ws.heap.size ≤ g1 ∧ (ov.ownBlock = some g3 ∨ Ws.heap.size ≤ g3)) ∧
  (l 5 = true → wr.heap[Bw]? = some (.cells #[x37] 45 (0, 0)))

def I7 (Bt : Nat) (Bw : Nat) (u ov : Value) (us : List Value) (xss : List (List Int)) (way : List Int) (q base : Nat) (Ws : World) (l : Nat → Bool) (a : Act) (wr : World) : Prop :=
  ∃ y0 y1 y2 y3 y5 y6 y9 y10 y11 y12 y13 y14 y15 y16 y17 y18 y19 y20 y21 y22 y23 y24 y25 y26 y27 y28 y29 y30 y31 y32 y38 x33 x34 x35 x36 x37 : Value, a = { tmps := List.toArray (y0 :: y1 :: y2 :: y3 :: .pointer (some ⟨Bt, 0, none⟩) :: y5 :: y6 :: .pointer (some ⟨Bw, 0, none⟩) :: u :: y9 :: y10 :: y11 :: y12 :: y13 :: y14 :: y15 :: y16 :: y17 :: y18 :: y19 :: y20 :: y21 :: y22 :: y23 :: y24 :: y25 :: y26 :: y27 :: y28 :: y29 :: y30 :: y31 :: y32 :: x33 :: x34 :: x35 :: x36 :: x37 :: y38 :: []), defers := [] } ∧ B7 Bw u ov us xss way q base Ws l x33 x34 x35 x36 x37 wr

theorem grown_setCell8 (w : World) (b o : Nat) (v : Value) : w.grownBy (w.setCell ⟨b, o, none⟩ v) (some b) :=
  ⟨rfl, rfl, rfl, by simp [World.setCell], fun k _ hk => Below.heap_setCell w ⟨b, o, none⟩ v k (fun e => hk (by rw [e]))⟩

theorem apart_more {us : List Value} {u : Value} {B : Nat} (h : ApartSS us) (hb : ∀ a ∈ us, ∀ k, a.ownBlock = some k → k < B) (hu : ∀ k, u.ownBlock = some k → B ≤ k) : ApartSS (us ++ [u]) := by
  intro x y a b k hxy ha hb' hk hk'
  have cs : ∀ (j : Nat) (c : Value), (us ++ [u])[j]? = some c → us[j]? = some c ∨ (j = us.length ∧ c = u) := fun j c hc => by
    rcases Nat.lt_or_ge j us.length with hj | hj
    · rw [List.getElem?_append_left hj] at hc; exact .inl hc
    · rw [List.getElem?_append_right hj] at hc
      rcases Nat.eq_zero_or_pos (j - us.length) with h0 | h0
      · rw [h0] at hc; simp at hc; exact .inr ⟨by omega, hc.symm⟩
      · rw [List.getElem?_eq_none (by simp; omega)] at hc; cases hc
  rcases cs x a ha with h1 | ⟨h1, rfl⟩
  · rcases cs y b hb' with h2 | ⟨h2, rfl⟩
    · exact h x y a b k hxy h1 h2 hk hk'
    · have := hb a (List.mem_of_getElem? h1) k hk
      have := hu k hk'
      omega
  · rcases cs y b hb' with h2 | ⟨h2, rfl⟩
    · have := hb b (List.mem_of_getElem? h2) k hk'
      have := hu k hk
      omega
    · omega

end Go.Proofs.Ytciccbbgamklbaa
