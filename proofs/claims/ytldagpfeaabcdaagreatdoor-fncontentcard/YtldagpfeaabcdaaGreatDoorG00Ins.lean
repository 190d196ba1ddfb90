/-
 Put together out of: Base, Stmt, Stmts, CopyS, Repl, Ins.
-/
import Derived.Test.YtldagpfeaabcdaaGreatDoorRows
import Derived.WalkKit
import Derived.ProofKit
import Derived.OpenShut
import Derived.ShutString
import Derived.Handy
import Derived.Laws.BytesArg
import Derived.Deep.QuietTactic
import Derived.BigQuiet
import Derived.Deep.RegionWith
import Derived.Lib.QuietBelow
import Derived.Deep.RegionLaw
import Derived.Laws.CopyOwn
import Derived.BigRegion
import Derived.Deep.RegionHeld3
import Derived.Lib.AppendZerosOnto
import Derived.Lib.Overlaps
namespace Go.Proofs.YtldagpfeaabcdaaGreatDoor
theorem gA {α : Type _} {l : List α} {i : Nat} : l.toArray[i]? = l[i]? := List.getElem?_toArray
theorem gB {α : Type _} {a : α} {l : List α} {i : Nat} : (a :: l)[i + 1]? = l[i]? := List.getElem?_cons_succ
theorem gC {α : Type _} {a : α} {l : List α} : (a :: l)[0]? = some a := List.getElem?_cons_zero
theorem gD {α : Type _} {l : List α} {i : Nat} {a : α} : l.toArray.setIfInBounds i a = (l.set i a).toArray := List.setIfInBounds_toArray l i a
theorem gE {α : Type _} {a b : α} {l : List α} : (a :: l).set 0 b = b :: l := rfl
theorem gF {α : Type _} {a b : α} {l : List α} {i : Nat} : (a :: l).set (i + 1) b = a :: l.set i b := rfl
open Go.RowKit
def jf8 (w : World) (v : Value) (xs : List Value) : Prop :=
 ∃ ao cap, v = .slice ao xs.length cap ∧ ∀ j x, xs[j]? = some x → ∃ g off, ao = some ⟨g, off, none⟩ ∧ w.cell? ⟨g, off + j, none⟩ = some x
theorem jc5 {w : World} {base : Nat} {e : TypeId} {v : Value} {n : Nat} {xs : List Value} (h : w.ownsRow base e 1 v n xs) : jf8 w v xs := by
 have hl := h.1
 simp only [Nat.mul_one] at hl
 subst hl
 rcases h.2 with ⟨rfl, hn⟩ | ⟨g, cap, cur, rfl, hr⟩
 · exact ⟨none, 0, by rw [hn], fun j x hx => by rw [List.eq_nil_of_length_eq_zero hn] at hx; simp at hx⟩
 · refine ⟨some ⟨g, 0, none⟩, cap, rfl, fun j x hx => ⟨g, 0, rfl, ?_⟩⟩
   have hj : j < xs.length := by
    rcases Nat.lt_or_ge j xs.length with h | h
    · exact h
    · rw [List.getElem?_eq_none h] at hx; simp at hx
   have := h.cellAt j (by omega)
   rw [Nat.zero_add, this, hx]
theorem jc7 {w w' : World} {v : Value} {xs : List Value} (h : jf8 w v xs) (hb : Below w.heap.size w w') : jf8 w' v xs := by
 obtain ⟨ao, cap, rfl, hc⟩ := h
 refine ⟨ao, cap, rfl, fun j x hx => ?_⟩
 obtain ⟨g, off, hg, hcell⟩ := hc j x hx
 exact ⟨g, off, hg, (hb.cell (World.block_lt_of_cell? w _ hcell)).trans hcell⟩
theorem own_below {w w' : World} {base : Nat} {e : TypeId} {s : Nat} {v : Value} {n : Nat} {xs : List Value} (h : w.ownsRow base e s v n xs) {B : Nat} (hb : Below B w w')
 (hB : ∀ k, v.ownBlock = some k → k < B) : w'.ownsRow base e s v n xs := by
 refine ⟨h.1, ?_⟩
 rcases h.2 with hn | ⟨g, cap, cur, rfl, hbg, hg, r⟩
 · exact .inl hn
 · exact .inr ⟨g, cap, cur, rfl, hbg, by rw [hb.block g (hB g rfl)]; exact hg, r⟩
theorem jc0 {w w' : World} {base : Nat} {e : TypeId} {s : Nat} {v : Value} {n : Nat} {xs : List Value} (h : w.ownsRow base e s v n xs) (hb : Below w.heap.size w w') : w'.ownsRow base e s v n xs :=
 own_below h hb (fun k hk => (h.lt k hk).2)
theorem jc4 {w : World} {base base' : Nat} {e : TypeId} {s : Nat} {v : Value} {n : Nat} {xs : List Value} (h : w.ownsRow base e s v n xs) (hB : base' ≤ base) : w.ownsRow base' e s v n xs := by
 refine ⟨h.1, ?_⟩
 rcases h.2 with hn | ⟨g, cap, cur, rfl, hbg, r⟩
 · exact .inl hn
 · exact .inr ⟨g, cap, cur, rfl, Nat.le_trans hB hbg, r⟩
theorem bcell {W w1 : World} (hb : Below W.heap.size W w1) : (∀ b o, b < W.heap.size → w1.cell? ⟨b, o, none⟩ = W.cell? ⟨b, o, none⟩) ∧ (∀ b o, b < W.heap.size → w1.frozen? ⟨b, o, none⟩ = W.frozen? ⟨b, o, none⟩) :=
 ⟨fun b o h => hb.cell (p := ⟨b, o, none⟩) h, fun b o h => hb.frozen (p := ⟨b, o, none⟩) h⟩
theorem below_drewN {B : Nat} {a w : World} (h : Below B a w) (n : Nat) : Below B a (w.drewN n) := ⟨h.os, h.tape, h.output, h.size, h.block⟩
theorem ja8 {a b c : World} {row : Option Nat} (h : a.grownBy b row) (k : b.grownBy c row) : a.grownBy c row :=
 ⟨k.os.trans h.os, k.tape.trans h.tape, k.output.trans h.output, Nat.le_trans h.size k.size, fun i hi hr => (k.block i (Nat.lt_of_lt_of_le hi h.size) hr).trans (h.block i hi hr)⟩
theorem jb3 {w w' : World} (h : Below w.heap.size w w') (row : Option Nat) : w.grownBy w' row := ⟨h.os, h.tape, h.output, h.size, fun i hi _ => h.block i hi⟩
theorem jd5 {w w' : World} {base : Nat} {e : TypeId} {s : Nat} {v : Value} {n : Nat} {xs : List Value} {row : Option Nat} (h : w.ownsRow base e s v n xs) (hg : w.grownBy w' row)
 (hne : ∀ k, v.ownBlock = some k → row ≠ some k) : w'.ownsRow base e s v n xs := by
 refine h.kept hg ?_
 cases hv : v.ownBlock with
 | none => exact .inl rfl
 | some k => exact .inr (fun e => hne k hv e.symm)
theorem ja2 {w : World} {o : Obj} {i : Nat} (h : i < w.heap.size) : (w.alloc o).heap[i]? = w.heap[i]? := by
 show (w.heap.push o)[i]? = w.heap[i]?
 rw [Array.getElem?_push, if_neg (Nat.ne_of_lt h)]
end Go.Proofs.YtldagpfeaabcdaaGreatDoor
namespace Go.Proofs.YtldagpfeaabcdaaGreatDoor
open Go.RowKit
set_option linter.unusedVariables false
set_option maxHeartbeats 4000000
def inB (x lo hi : Int) : Bool := decide (lo ≤ x) && decide (x ≤ hi)
theorem l1In (x lo hi : Int) (w : World) :
 Calls Tryz.prog 59 #[.int .i64 x, .int .i64 lo, .int .i64 hi] w fun e w' => e = .returned (.bool (inB x lo hi)) ∧ w = w' := by
 unfold inB
 by_cases h : lo ≤ x
 · have h' : decide (lo ≤ x) = true := by simpa using h
   go_enter Tryz.func59, Tryz.ntmps59
   go_wp2
   go_ret
   exact ⟨by simp [h], rfl⟩
 · have h' : decide (lo ≤ x) = false := by simpa using h
   go_enter Tryz.func59, Tryz.ntmps59
   go_wp2
   go_ret
   exact ⟨by simp, rfl⟩
def wiB (x n : Int) : Bool := decide (0 ≤ x) && decide (x < n)
theorem within (x n : Int) (w : World) :
 Calls Tryz.prog 71 #[.int .i64 x, .int .i64 n] w fun e w' => e = .returned (.bool (wiB x n)) ∧ w = w' := by
 unfold wiB
 by_cases h : 0 ≤ x
 · have h' : decide (0 ≤ x) = true := by simpa using h
   go_enter Tryz.func71, Tryz.ntmps71
   go_wp2
   go_ret
   exact ⟨by simp [h], rfl⟩
 · have h' : decide (0 ≤ x) = false := by simpa using h
   go_enter Tryz.func71, Tryz.ntmps71
   go_wp2
   go_ret
   exact ⟨by simp, rfl⟩
def jd7 (k x y : Int) : Bool :=
 if k = 1 ∨ k = 9 then inB x 0 0 && inB y 0 0
 else if k = 2 ∨ k = 3 then inB x 0 5 && inB y 0 5
 else if k = 4 ∨ k = 5 ∨ k = 6 then inB x 0 5 && inB y 0 0
 else if k = 7 then inB x 0 0 && inB y 0 11
 else if k = 8 then inB x 0 0 && inB y 0 3
 else false
theorem inB_nil (x : Int) : inB x 0 0 = (x == 0) := by
 unfold inB
 rw [Bool.eq_iff_iff]
 simp
 omega
theorem jp0 (x n : Int) : inB x 0 n = wiB x (n + 1) := by
 unfold inB wiB
 rw [Bool.eq_iff_iff]
 simp
 omega
theorem kinds (k : Int) : k = 1 ∨ k = 2 ∨ k = 3 ∨ k = 4 ∨ k = 5 ∨ k = 6 ∨ k = 7 ∨ k = 8 ∨ k = 9 ∨ (k ≠ 1 ∧ k ≠ 2 ∧ k ≠ 3 ∧ k ≠ 4 ∧ k ≠ 5 ∧ k ≠ 6 ∧ k ≠ 7 ∧ k ≠ 8 ∧ k ≠ 9) := by omega
theorem specStmtOk (k x y : Int) (w : World) :
 Calls Tryz.prog 78 #[.agg #[.int .i64 k, .int .i64 x, .int .i64 y]] w fun e w' => e = .returned (.bool (jd7 k x y)) ∧ Below w.heap.size w w' := by
 unfold jd7
 rw [inB_nil, inB_nil]
 rcases kinds k with rfl | rfl | rfl | rfl | rfl | rfl | rfl | rfl | rfl | ⟨h1, h2, h3, h4, h5, h6, h7, h8, h9⟩
 all_goals
  simp only [Int.reduceEq, or_false, or_true, or_self, if_true, if_false, *]
  first
   | cases hx : inB x 0 5
   | skip
  all_goals
   go_enter Tryz.func78, Tryz.ntmps78
   go_wp2_with (first | (go_at_call 59; refine (l1In _ _ _ _).mono ?_; rintro e w' ⟨rfl, rfl⟩))
   all_goals
    go_ret
    exact ⟨by simp [*], by go_grown⟩
theorem qi0 (k x y : Int) (w : World) :
 Calls Tryz.prog 70 #[.agg #[.int .i64 k, .int .i64 x, .int .i64 y]] w fun e w' => e = .returned (.bool (jd7 k x y)) ∧ Below w.heap.size w w' := by
 unfold jd7
 rw [jp0, jp0, jp0, jp0, jp0, jp0]
 rcases kinds k with rfl | rfl | rfl | rfl | rfl | rfl | rfl | rfl | rfl | ⟨h1, h2, h3, h4, h5, h6, h7, h8, h9⟩
 all_goals
  simp only [Int.reduceEq, or_false, or_true, or_self, if_true, if_false, Int.reduceAdd, Int.zero_add, *]
  first
   | (cases hx : wiB x 1)
   | (cases hx : wiB x 6)
   | skip
  all_goals
   go_enter Tryz.func70, Tryz.ntmps70
   go_wp2_with (first | (go_at_call 71; refine (within _ _ _).mono ?_; rintro e w' ⟨rfl, rfl⟩))
   all_goals
    go_ret
    exact ⟨by simp [*], by go_grown⟩
end Go.Proofs.YtldagpfeaabcdaaGreatDoor
namespace Go.Proofs.YtldagpfeaabcdaaGreatDoor
open Go.RowKit
set_option linter.unusedVariables false
set_option maxHeartbeats 4000000
structure Stm where
 k : Int
 x : Int
 y : Int
def ja3 : List Stm → List Value
 | [] => []
 | s :: ss => .int .i64 s.k :: .int .i64 s.x :: .int .i64 s.y :: ja3 ss
theorem je0 : ∀ ss : List Stm, (ja3 ss).length = ss.length * 3
 | [] => rfl
 | s :: ss => by simp [ja3, je0 ss]; omega
theorem jk7 : ∀ (ss : List Stm) (j : Nat) (s : Stm), ss[j]? = some s →
 (ja3 ss)[j * 3]? = some (.int .i64 s.k) ∧ (ja3 ss)[j * 3 + 1]? = some (.int .i64 s.x) ∧ (ja3 ss)[j * 3 + 2]? = some (.int .i64 s.y)
 | [], j, s, h => by simp at h
 | t :: ss, 0, s, h => by simp at h; subst h; simp [ja3]
 | t :: ss, j + 1, s, h => by
  have := jk7 ss j s (by simpa using h)
  have e : (j + 1) * 3 = j * 3 + 1 + 1 + 1 := by omega
  simp only [e, ja3]
  exact this
theorem jh9 : ∀ (a b : List Stm), ja3 (a ++ b) = ja3 a ++ ja3 b
 | [], b => rfl
 | s :: a, b => by simp [ja3, jh9 a b]
def jk5 (w : World) (v : Value) (ss : List Stm) : Prop :=
 ∃ ao cap, v = .slice ao ss.length cap ∧ ∀ j s, ss[j]? = some s → ∃ g off, ao = some ⟨g, off, none⟩ ∧
  w.cell? ⟨g, off + j * 3, none⟩ = some (.int .i64 s.k) ∧ w.cell? ⟨g, off + j * 3 + 1, none⟩ = some (.int .i64 s.x) ∧ w.cell? ⟨g, off + j * 3 + 2, none⟩ = some (.int .i64 s.y)
theorem jd0 {w w' : World} {v : Value} {ss : List Stm} (h : jk5 w v ss) (hb : Below w.heap.size w w') : jk5 w' v ss := by
 obtain ⟨ao, cap, rfl, hc⟩ := h
 refine ⟨ao, cap, rfl, fun j s hs => ?_⟩
 obtain ⟨g, off, hg, c0, c1, c2⟩ := hc j s hs
 have hB := World.block_lt_of_cell? w _ c0
 exact ⟨g, off, hg, (hb.cell hB).trans c0, (hb.cell (p := ⟨g, off + j * 3 + 1, none⟩) hB).trans c1, (hb.cell (p := ⟨g, off + j * 3 + 2, none⟩) hB).trans c2⟩
theorem reads3_own {w : World} {base : Nat} {e : TypeId} {v : Value} {ss : List Stm} (h : w.ownsRow base e 3 v ss.length (ja3 ss)) : jk5 w v ss := by
 rcases h.2 with ⟨rfl, hn⟩ | ⟨g, cap, cur, rfl, hr⟩
 · exact ⟨none, 0, by rw [hn], fun j s hs => by rw [List.eq_nil_of_length_eq_zero hn] at hs; simp at hs⟩
 · refine ⟨some ⟨g, 0, none⟩, cap, rfl, fun j s hs => ⟨g, 0, rfl, ?_⟩⟩
   have hj : j < ss.length := by
    rcases Nat.lt_or_ge j ss.length with h | h
    · exact h
    · rw [List.getElem?_eq_none h] at hs; simp at hs
   obtain ⟨a0, a1, a2⟩ := jk7 ss j s hs
   have hl := je0 ss
   simp only [Nat.zero_add]
   rw [h.cellAt (j * 3) (by omega), h.cellAt (j * 3 + 1) (by omega), h.cellAt (j * 3 + 2) (by omega)]
   exact ⟨a0, a1, a2⟩
theorem js1 : (Tryz.prog.info? 52).map (fun i => (i.zero, i.size, i.bytes)) = some (some (.agg #[.int .i64 0, .int .i64 0, .int .i64 0]), 3, 24) := by kernel_rfl
theorem jo6 {w : World} {base : Nat} {e : TypeId} {s n g cap : Nat} {xs : List Value} (h : w.ownsRow base e s (.slice (some ⟨g, 0, none⟩) n cap) n xs) (j : Nat) (hj : j < n * s) : ∃ x, w.cell? ⟨g, j, none⟩ = some x := by
 have h1 := h.cellAt j hj
 have h2 := h.1
 exact ⟨xs[j]'(by omega), by rw [h1]; simp⟩
end Go.Proofs.YtldagpfeaabcdaaGreatDoor
namespace Go.Proofs.YtldagpfeaabcdaaGreatDoor
open Go.RowKit
set_option linter.unusedVariables false
set_option linter.unusedSimpArgs false
set_option maxHeartbeats 1000000
section
variable {P : Program}
end
theorem own_open {w : World} {base : Nat} {e : TypeId} {s g n cap : Nat} {xs : List Value} (h : w.ownsRow base e s (.slice (some ⟨g, 0, none⟩) n cap) n xs) :
 ∃ sp : List Value, w.heap[g]? = some (.cells (xs ++ sp).toArray e (0, 0)) ∧ sp.length = (cap - n) * s ∧ n ≤ cap ∧ cap ≤ maxLen ∧ base ≤ g := by
 rcases h.2 with ⟨e, _⟩ | ⟨g', cap', cur, e, hb, hh, h1, h2, h3, h4⟩
 · cases e
 · cases e
   refine ⟨cur.toList.drop (n * s), ?_, ?_, h1, h2, hb⟩
   · rw [← h4, List.take_append_drop]; simpa using hh
   · rw [List.length_drop, Array.length_toList, h3, Nat.sub_mul]
theorem je4 (p : List Stm) : ∀ u ∈ ja3 p, u.oneCell' = true := by
 induction p with
 | nil => intro u h; simp [ja3] at h
 | cons s p ih =>
  intro u h
  simp only [ja3, List.mem_cons] at h
  rcases h with rfl | rfl | rfl | h
  · rfl
  · rfl
  · rfl
  · exact ih u h
end Go.Proofs.YtldagpfeaabcdaaGreatDoor
namespace Go.Proofs.YtldagpfeaabcdaaGreatDoor
open Go.RowKit
set_option linter.unusedVariables false
set_option linter.unusedSimpArgs false
set_option maxHeartbeats 4000000
set_option maxRecDepth 20000
theorem qb3 {w : World} {b : Nat} {k x y : Int} (h : w.heap[b]? = some (.cells #[.int .i64 k, .int .i64 x, .int .i64 y] 52 (0, 0))) : ∀ j u, (ja3 [⟨k, x, y⟩])[j]? = some u → w.cell? ((⟨b, 0, none⟩ : Addr).add j) = some u := by
 intro j u hj
 rw [Addr.add_lit, Nat.zero_add, cell_of_row w b j _ _ (0, 0) h, ← hj]
 simp [ja3]
end Go.Proofs.YtldagpfeaabcdaaGreatDoor
namespace Go.Proofs.YtldagpfeaabcdaaGreatDoor
open Go.RowKit
set_option linter.unusedVariables false
set_option linter.unusedSimpArgs false
set_option maxHeartbeats 4000000
set_option maxRecDepth 20000
def Stop13 (p : Prop) : Prop := p
theorem stop13 {p : Prop} (h : Stop13 p) : p := h
end Go.Proofs.YtldagpfeaabcdaaGreatDoor
