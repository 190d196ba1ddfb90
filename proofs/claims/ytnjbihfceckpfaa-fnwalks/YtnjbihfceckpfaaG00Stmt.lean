/-
 Put together out of: Base, Draw, Stmt.
-/
import Derived.Test.YtnjbihfceckpfaaRows
import Derived.WalkKit
import Derived.ProofKit
import Derived.OpenShut
import Derived.ShutString
import Derived.Handy
import Derived.Laws.BytesArg
import Derived.Deep.QuietTactic
import Derived.BigQuiet
import Derived.Deep.RegionWith
/-
 Lemmas of the verifier's own that speak of no dump: slices of texts as they lie in memory, worlds that grow.
-/
namespace Go.Proofs.Ytnjbihfceckpfaa
theorem gA {α : Type _} {l : List α} {i : Nat} : l.toArray[i]? = l[i]? := List.getElem?_toArray
theorem gB {α : Type _} {a : α} {l : List α} {i : Nat} : (a :: l)[i + 1]? = l[i]? := List.getElem?_cons_succ
theorem gC {α : Type _} {a : α} {l : List α} : (a :: l)[0]? = some a := List.getElem?_cons_zero
theorem gD {α : Type _} {l : List α} {i : Nat} {a : α} : l.toArray.setIfInBounds i a = (l.set i a).toArray := List.setIfInBounds_toArray l i a
theorem gE {α : Type _} {a b : α} {l : List α} : (a :: l).set 0 b = b :: l := rfl
theorem gF {α : Type _} {a b : α} {l : List α} {i : Nat} : (a :: l).set (i + 1) b = a :: l.set i b := rfl
open Go.RowKit

/-- The slice v holds the cells xs (one cell each). -/
def Reads (w : World) (v : Value) (xs : List Value) : Prop :=
 ∃ ao cap, v = .slice ao xs.length cap ∧ ∀ j x, xs[j]? = some x → ∃ g off, ao = some ⟨g, off, none⟩ ∧ w.cell? ⟨g, off + j, none⟩ = some x

theorem reads_own {w : World} {base : Nat} {e : TypeId} {v : Value} {n : Nat} {xs : List Value} (h : w.ownsRow base e 1 v n xs) : Reads w v xs := by
 have hl := h.1
 simp only [Nat.mul_one] at hl
 subst hl
 rcases h.2 with ⟨rfl, hn⟩ | ⟨g, cap, cur, rfl, hr⟩
 · exact ⟨none, 0, by rw [hn], fun j x hx => by rw [List.eq_nil_of_length_eq_zero hn] at hx; simp at hx⟩
 · refine ⟨some ⟨g, 0, none⟩, cap, rfl, fun j x hx => ⟨g, 0, rfl, ?_⟩⟩
   have hj : j < xs.length := by
    rcases Nat.lt_or_ge j xs.length with h | h
    · exact h
    · rw [List.getElem?_eq_none h] at hx; simp at hx
   have := h.cellAt j (by omega)
   rw [Nat.zero_add, this, hx]

theorem reads_below {w w' : World} {v : Value} {xs : List Value} (h : Reads w v xs) (hb : Below w.heap.size w w') : Reads w' v xs := by
 obtain ⟨ao, cap, rfl, hc⟩ := h
 refine ⟨ao, cap, rfl, fun j x hx => ?_⟩
 obtain ⟨g, off, hg, hcell⟩ := hc j x hx
 exact ⟨g, off, hg, (hb.cell (World.block_lt_of_cell? w _ hcell)).trans hcell⟩

theorem own_below {w w' : World} {base : Nat} {e : TypeId} {s : Nat} {v : Value} {n : Nat} {xs : List Value} (h : w.ownsRow base e s v n xs) {B : Nat} (hb : Below B w w')
 (hB : ∀ k, v.ownBlock = some k → k < B) : w'.ownsRow base e s v n xs := by
 refine ⟨h.1, ?_⟩
 rcases h.2 with hn | ⟨g, cap, cur, rfl, hbg, hg, r⟩
 · exact .inl hn
 · exact .inr ⟨g, cap, cur, rfl, hbg, by rw [hb.block g (hB g rfl)]; exact hg, r⟩

theorem own_kept {w w' : World} {base : Nat} {e : TypeId} {s : Nat} {v : Value} {n : Nat} {xs : List Value} (h : w.ownsRow base e s v n xs) (hb : Below w.heap.size w w') : w'.ownsRow base e s v n xs :=
 own_below h hb (fun k hk => (h.lt k hk).2)

theorem own_mono {w : World} {base base' : Nat} {e : TypeId} {s : Nat} {v : Value} {n : Nat} {xs : List Value} (h : w.ownsRow base e s v n xs) (hB : base' ≤ base) : w.ownsRow base' e s v n xs := by
 refine ⟨h.1, ?_⟩
 rcases h.2 with hn | ⟨g, cap, cur, rfl, hbg, r⟩
 · exact .inl hn
 · exact .inr ⟨g, cap, cur, rfl, Nat.le_trans hB hbg, r⟩

/-- All cells and marks of what was there read as before. -/
theorem bcell {W w1 : World} (hb : Below W.heap.size W w1) : (∀ b o, b < W.heap.size → w1.cell? ⟨b, o, none⟩ = W.cell? ⟨b, o, none⟩) ∧ (∀ b o, b < W.heap.size → w1.frozen? ⟨b, o, none⟩ = W.frozen? ⟨b, o, none⟩) :=
 ⟨fun b o h => hb.cell (p := ⟨b, o, none⟩) h, fun b o h => hb.frozen (p := ⟨b, o, none⟩) h⟩

theorem grown_trans {a b c : World} {row : Option Nat} (h : a.grownBy b row) (k : b.grownBy c row) : a.grownBy c row :=
 ⟨k.os.trans h.os, k.tape.trans h.tape, k.output.trans h.output, Nat.le_trans h.size k.size, fun i hi hr => (k.block i (Nat.lt_of_lt_of_le hi h.size) hr).trans (h.block i hi hr)⟩

theorem grown_of_below {w w' : World} (h : Below w.heap.size w w') (row : Option Nat) : w.grownBy w' row := ⟨h.os, h.tape, h.output, h.size, fun i hi _ => h.block i hi⟩

theorem own_grown {w w' : World} {base : Nat} {e : TypeId} {s : Nat} {v : Value} {n : Nat} {xs : List Value} {row : Option Nat} (h : w.ownsRow base e s v n xs) (hg : w.grownBy w' row)
 (hne : ∀ k, v.ownBlock = some k → row ≠ some k) : w'.ownsRow base e s v n xs := by
 refine h.kept hg ?_
 cases hv : v.ownBlock with
 | none => exact .inl rfl
 | some k => exact .inr (fun e => hne k hv e.symm)

theorem old_block {w : World} {o : Obj} {i : Nat} (h : i < w.heap.size) : (w.alloc o).heap[i]? = w.heap[i]? := by
 show (w.heap.push o)[i]? = w.heap[i]?
 rw [Array.getElem?_push, if_neg (Nat.ne_of_lt h)]

end Go.Proofs.Ytnjbihfceckpfaa

/-
 The draws of the specification: a cursor over the bytes of the code. What is drawn is some number in its range; of memory only the cursor's block turns.
-/
namespace Go.Proofs.Ytnjbihfceckpfaa
open Go.RowKit
set_option linter.unusedVariables false
set_option maxHeartbeats 4000000

/-- The cursor c lies in block g, over the code's bytes. -/
def Cur (w : World) (g : Nat) (bs : List Int) : Prop :=
 ∃ ao cap, ∃ i : Nat, ∃ h : Int, w.heap[g]? = some (.cells #[.slice ao bs.length cap, .int .i64 i, .int .i64 h] 138 (0, 0)) ∧ i ≤ bs.length ∧
  ∀ j x, bs[j]? = some x → ∃ gg off, ao = some ⟨gg, off, none⟩ ∧ gg < g ∧ w.cell? ⟨gg, off + j, none⟩ = some (.int .u8 x)

theorem three_cells {w : World} {b : Nat} {x y z : Value} {t : TypeId} (h : w.heap[b]? = some (.cells #[x, y, z] t (0, 0))) :
 w.cell? ⟨b, 0, none⟩ = some x ∧ w.cell? ⟨b, 1, none⟩ = some y ∧ w.cell? ⟨b, 2, none⟩ = some z ∧ w.frozen? ⟨b, 0, none⟩ = false ∧ w.frozen? ⟨b, 1, none⟩ = false ∧ w.frozen? ⟨b, 2, none⟩ = false := by
 refine ⟨?_, ?_, ?_, ?_, ?_, ?_⟩ <;> simp [World.cell?, World.frozen?, h]

theorem and255 (y : Int) : 0 ≤ bits .and .i64 y 255 ∧ bits .and .i64 y 255 ≤ 255 := by
 have h : (BitVec.ofInt 64 y &&& BitVec.ofInt 64 255).toNat ≤ 255 := by
  rw [BitVec.toNat_and]
  have : (BitVec.ofInt 64 255).toNat = 255 := by decide
  rw [this]
  exact Nat.and_le_right
 show 0 ≤ IntKind.i64.wrap ((BitVec.ofInt 64 y &&& BitVec.ofInt 64 255).toNat : Int) ∧ IntKind.i64.wrap ((BitVec.ofInt 64 y &&& BitVec.ofInt 64 255).toNat : Int) ≤ 255
 generalize (BitVec.ofInt 64 y &&& BitVec.ofInt 64 255).toNat = n at h
 simp [IntKind.wrap, IntKind.bits, IntKind.signed]
 omega

theorem cur_grown {w w' : World} {g : Nat} {bs : List Int} {row : Option Nat} (h : Cur w g bs) (hg : w.grownBy w' row) (hr : ∀ k, row = some k → g < k) : Cur w' g bs := by
 obtain ⟨ao, cap, i, h, hh, hi, hc⟩ := h
 refine ⟨ao, cap, i, h, ?_, hi, fun j x hx => ?_⟩
 · rw [hg.block g (Array.getElem?_eq_some_iff.1 hh).1 (fun e => by have := hr g e.symm; omega)]; exact hh
 · obtain ⟨gg, off, h1, h2, h3⟩ := hc j x hx
   exact ⟨gg, off, h1, h2, hg.cell h3 (fun e => by have h4 : g < gg := hr gg e.symm; omega)⟩

theorem cur_below {w w' : World} {g : Nat} {bs : List Int} (h : Cur w g bs) (hb : Below w.heap.size w w') : Cur w' g bs :=
 cur_grown h (grown_of_below hb none) (by simp)

theorem set3_2 {w : World} {b : Nat} {x y z : Value} {t : TypeId} (h : w.heap[b]? = some (.cells #[x, y, z] t (0, 0))) (u : Value) : (w.setCell ⟨b, 2, none⟩ u).heap[b]? = some (.cells #[x, y, u] t (0, 0)) := by
 have := heap_setCell_same w b 2 _ t u h
 simpa using this
theorem set3_1 {w : World} {b : Nat} {x y z : Value} {t : TypeId} (h : w.heap[b]? = some (.cells #[x, y, z] t (0, 0))) (u : Value) : (w.setCell ⟨b, 1, none⟩ u).heap[b]? = some (.cells #[x, u, z] t (0, 0)) := by
 have := heap_setCell_same w b 1 _ t u h
 simpa using this
theorem grown_setCell (w : World) (b o : Nat) (u : Value) : w.grownBy (w.setCell ⟨b, o, none⟩ u) (some b) :=
 ⟨rfl, rfl, rfl, by simp, fun k _ hk => Below.heap_setCell _ _ _ _ (fun e => hk (by simp [e]))⟩
theorem grown_drewN {w w' : World} {row : Option Nat} (h : w.grownBy w' row) (n : Nat) : w.grownBy (w'.drewN n) row := ⟨h.os, h.tape, h.output, h.size, h.block⟩

/-- The cursor behind a store into it. -/
theorem cur_of {w w1 : World} {g : Nat} {bs : List Int} {ao : Option Addr} {cap i i' : Nat} {h h' : Int}
 (_ : w.heap[g]? = some (.cells #[.slice ao bs.length cap, .int .i64 i, .int .i64 h] 138 (0, 0))) (hh : w1.heap[g]? = some (.cells #[.slice ao bs.length cap, .int .i64 i', .int .i64 h'] 138 (0, 0))) (hi : i' ≤ bs.length)
 (hc : ∀ j x, bs[j]? = some x → ∃ gg off, ao = some ⟨gg, off, none⟩ ∧ gg < g ∧ w.cell? ⟨gg, off + j, none⟩ = some (.int .u8 x)) (hg : w.grownBy w1 (some g)) (n : Nat) : Cur (w1.drewN n) g bs := by
 refine ⟨ao, cap, i', h', hh, hi, fun j x hx => ?_⟩
 obtain ⟨gg, off, h1, h2, h3⟩ := hc j x hx
 exact ⟨gg, off, h1, h2, hg.cell h3 (by simp; omega)⟩

theorem l1Byte (g : Nat) (bs : List Int) (w : World) (hl : bs.length ≤ 1048576) (hc : Cur w g bs) :
 Calls Try.prog 120 #[.pointer (some ⟨g, 0, none⟩)] w fun e w' => ∃ x : Int, e = .returned (.int .i64 x) ∧ 0 ≤ x ∧ x ≤ 255 ∧ Cur w' g bs ∧ w.grownBy w' (some g) := by
 obtain ⟨ao, cap, i, h, hh, hi, hcell⟩ := hc
 obtain ⟨c0, c1, c2, f0, f1, f2⟩ := three_cells hh
 have HH : Hid _ := hh
 clear hh
 by_cases hlt : i < bs.length
 · have HC : Hid (∀ j x, bs[j]? = some x → ∃ gg off, ao = some ⟨gg, off, none⟩ ∧ gg < g ∧ w.cell? ⟨gg, off + j, none⟩ = some (.int .u8 x)) := hcell
   obtain ⟨gg, off, rfl, hne, hx⟩ := hcell i bs[i] (by simp [hlt])
   clear hcell
   have hlt' : (i : Int) < (bs.length : Int) := by omega
   go_enter Try.func120, Try.ntmps120
   go_wp2
   generalize wrap64 (wrap64 (h * _) + _) = H
   have k1 := set3_2 HH.out (.int .i64 H)
   have gr1 := grown_setCell w g 2 (.int .i64 H)
   generalize w.setCell ⟨g, 2, none⟩ (.int .i64 H) = w1 at k1 gr1 ⊢
   clear c0 c1 c2 f0 f1 f2
   obtain ⟨c0, c1, c2, f0, f1, f2⟩ := three_cells k1
   have hx1 : w1.cell? ⟨gg, off + i, none⟩ = _ := gr1.cell hx (by simp; omega)
   have K1 : Hid _ := k1
   have GR1 : Hid _ := gr1
   clear k1 gr1 hx
   go_quiet (fail)
   go_wp2
   go_quiet (fail)
   go_wp2
   go_quiet (fail)
   go_wp2
   go_ret
   have gr2 : ∀ n, w.grownBy ((w1.drewN n).setCell ⟨g, 1, none⟩ (.int .i64 ((i : Int) + 1))) (some g) := fun n => grown_trans (grown_drewN GR1.out n) (grown_setCell _ g 1 _)
   refine ⟨_, rfl, (and255 _).1, (and255 _).2, ?_, gr2 _⟩
   exact cur_of (i' := i + 1) HH.out (set3_1 (w := w1.drewN _) K1.out _) (by omega) HC.out (gr2 _) 0
 · go_enter Try.func120, Try.ntmps120
   go_wp2
   generalize wrap64 (wrap64 (h * _) + _) = H
   have k1 := set3_2 HH.out (.int .i64 H)
   have gr1 := grown_setCell w g 2 (.int .i64 H)
   generalize w.setCell ⟨g, 2, none⟩ (.int .i64 H) = w1 at k1 gr1 ⊢
   clear c0 c1 c2 f0 f1 f2
   obtain ⟨c0, c1, c2, f0, f1, f2⟩ := three_cells k1
   have K1 : Hid _ := k1
   have GR1 : Hid _ := gr1
   have HC : Hid (∀ j x, bs[j]? = some x → ∃ gg off, ao = some ⟨gg, off, none⟩ ∧ gg < g ∧ w.cell? ⟨gg, off + j, none⟩ = some (.int .u8 x)) := hcell
   clear k1 gr1 hcell
   go_quiet (fail)
   go_wp2
   go_quiet (fail)
   go_wp2
   go_ret
   refine ⟨_, rfl, (and255 _).1, (and255 _).2, ?_, grown_drewN (grown_drewN GR1.out _) _⟩
   exact cur_of (w1 := w1.drewN _) HH.out K1.out hi HC.out (grown_drewN GR1.out _) _

theorem rem_range (x n : Int) (h0 : 0 ≤ x) (hn : 0 < n) : 0 ≤ x % n ∧ x % n < n := ⟨Int.emod_nonneg _ (by omega), Int.emod_lt_of_pos _ hn⟩

theorem l1Below (g : Nat) (bs : List Int) (n : Int) (hn : n ≤ 4294967296) (w : World) (hl : bs.length ≤ 1048576) (hc : Cur w g bs) :
 Calls Try.prog 86 #[.pointer (some ⟨g, 0, none⟩), .int .i64 n] w fun e w' => ∃ x : Int, e = .returned (.int .i64 x) ∧ 0 ≤ x ∧ (0 < n → x < n) ∧ (n ≤ 0 → x = 0) ∧ Cur w' g bs ∧ w.grownBy w' (some g) := by
 by_cases h0 : n ≤ 0
 · go_enter Try.func86, Try.ntmps86
   go_wp2
   go_ret
   exact ⟨0, rfl, by omega, by omega, by omega, hc, World.grownBy.refl _ _⟩
 · have hn0 : (n == 0) = false := by simp; omega
   by_cases h1 : n ≤ 256
   · go_enter Try.func86, Try.ntmps86
     go_wp2_with (go_at_call 120; refine (l1Byte g bs _ hl hc).mono ?_; rintro e w1 ⟨x, rfl, hx0, hx1, hc1, hg1⟩)
     go_ret
     have := rem_range x n hx0 (by omega)
     exact ⟨_, rfl, this.1, fun _ => this.2, by omega, hc1, hg1⟩
   · go_enter Try.func86, Try.ntmps86
     go_wp2_with fail
     go_at_call 120
     refine (l1Byte g bs _ hl hc).mono ?_
     rintro e w1 ⟨x, rfl, hx0, hx1, hc1, hg1⟩
     go_wp2_with fail
     go_at_call 120
     refine (l1Byte g bs _ hl hc1).mono ?_
     rintro e w2 ⟨y, rfl, hy0, hy1, hc2, hg2⟩
     go_wp2_with fail
     go_at_call 120
     refine (l1Byte g bs _ hl hc2).mono ?_
     rintro e w3 ⟨z, rfl, hz0, hz1, hc3, hg3⟩
     go_wp2_with fail
     go_at_call 120
     refine (l1Byte g bs _ hl hc3).mono ?_
     rintro e w4 ⟨u, rfl, hu0, hu1, hc4, hg4⟩
     go_wp2
     go_ret
     have := rem_range (x * 16777216 + y * 65536 + z * 256 + u) n (by omega) (by omega)
     exact ⟨_, rfl, this.1, fun _ => this.2, by omega, hc4, grown_trans hg1 (grown_trans hg2 (grown_trans hg3 hg4))⟩

theorem l1Once (g : Nat) (bs : List Int) (n : Int) (hn : n ≤ 4294967296) (w : World) (hl : bs.length ≤ 1048576) (hc : Cur w g bs) :
 Calls Try.prog 85 #[.pointer (some ⟨g, 0, none⟩), .int .i64 n] w fun e w' => ∃ b : Bool, e = .returned (.bool b) ∧ Cur w' g bs ∧ w.grownBy w' (some g) := by
 go_enter Try.func85, Try.ntmps85
 go_wp2_with (go_at_call 86; refine (l1Below g bs n hn _ hl hc).mono ?_; rintro e w1 ⟨x, rfl, hx0, hx1, hx2, hc1, hg1⟩)
 go_ret
 exact ⟨_, rfl, hc1, hg1⟩

/-- The code: a slice of bytes that came in. -/
theorem l1New (bs : List Int) (v : Value) (w : World) (hl : bs.length ≤ 1048576) (hv : Reads w v (bs.map (Value.int .u8))) :
 Calls Try.prog 60 #[v] w fun e w' => ∃ g, e = .returned (.pointer (some ⟨g, 0, none⟩)) ∧ w.heap.size ≤ g ∧ Cur w' g bs ∧ Below w.heap.size w w' := by
 obtain ⟨ao, cap, rfl, hc⟩ := hv
 simp only [List.length_map]
 go_enter Try.func60, Try.ntmps60
 go_wp2
 go_loopw [3, 4] (fun q i wr => ∃ k : Nat, k ≤ bs.length ∧ i = .int .i64 k ∧ (∃ h : Int, q = .int .i64 h) ∧ Below w.heap.size w wr) (fun _ i _ => bs.length - (intOf i).toNat)
 case atStart => exact ⟨0, Nat.zero_le _, rfl, ⟨_, rfl⟩, Below.refl _ _⟩
 case round =>
  obtain ⟨k, hk, rfl, ⟨h, rfl⟩, hb⟩ := hrel
  by_cases hlt : k < bs.length
  · obtain ⟨g, off, rfl, hg⟩ := hc k (.int .u8 bs[k]) (by simp [hlt])
    have hg := (hb.cell (World.block_lt_of_cell? w _ hg)).trans hg
    have hlt' : (k : Int) < (bs.length : Int) := by omega
    clear hc
    go_wp2
    go_roundw
    case rel => exact ⟨k + 1, by omega, by go_num, ⟨_, rfl⟩, hb⟩
    case measure => simp [intOf]; omega
  · go_wp2
    go_ret
    have hs := hb.size
    refine ⟨_, rfl, hs, ?_, hb.alloc hs _⟩
    refine ⟨ao, cap, 0, h, heap_alloc_new wr _, Nat.zero_le _, fun j x hx => ?_⟩
    obtain ⟨gg, off, h1, h2⟩ := hc j (.int .u8 x) (by simp [hx])
    have hlt := World.block_lt_of_cell? w _ h2
    refine ⟨gg, off, h1, by have : gg < w.heap.size := hlt; omega, ?_⟩
    rw [World.cell?_alloc_lt (h := by have : gg < w.heap.size := hlt; show gg < wr.heap.size; omega)]
    exact (hb.cell hlt).trans h2

end Go.Proofs.Ytnjbihfceckpfaa

/-
 Chapter 3: l1In, within, toStmt, spec.StmtOk, impl.StmtOk: what both answer of a statement.
-/
namespace Go.Proofs.Ytnjbihfceckpfaa
open Go.RowKit
set_option linter.unusedVariables false
set_option maxHeartbeats 4000000

/-- Is it from lo to hi? -/
def inB (x lo hi : Int) : Bool := decide (lo ≤ x) && decide (x ≤ hi)

theorem l1In (x lo hi : Int) (w : World) :
 Calls Try.prog 51 #[.int .i64 x, .int .i64 lo, .int .i64 hi] w fun e w' => e = .returned (.bool (inB x lo hi)) ∧ w = w' := by
 unfold inB
 by_cases h : lo ≤ x
 · have h' : decide (lo ≤ x) = true := by simpa using h
   go_enter Try.func51, Try.ntmps51
   go_wp2
   go_ret
   exact ⟨by simp [h], rfl⟩
 · have h' : decide (lo ≤ x) = false := by simpa using h
   go_enter Try.func51, Try.ntmps51
   go_wp2
   go_ret
   exact ⟨by simp, rfl⟩

/-- Is it below n, and not below 0? -/
def wiB (x n : Int) : Bool := decide (0 ≤ x) && decide (x < n)

theorem within (x n : Int) (w : World) :
 Calls Try.prog 137 #[.int .i64 x, .int .i64 n] w fun e w' => e = .returned (.bool (wiB x n)) ∧ w = w' := by
 unfold wiB
 by_cases h : 0 ≤ x
 · have h' : decide (0 ≤ x) = true := by simpa using h
   go_enter Try.func137, Try.ntmps137
   go_wp2
   go_ret
   exact ⟨by simp [h], rfl⟩
 · have h' : decide (0 ≤ x) = false := by simpa using h
   go_enter Try.func137, Try.ntmps137
   go_wp2
   go_ret
   exact ⟨by simp, rfl⟩

/-- What both answer of a statement. -/
def stmtOk (k x y : Int) : Bool :=
 if k = 1 ∨ k = 9 then inB x 0 0 && inB y 0 0
 else if k = 2 ∨ k = 3 then inB x 0 5 && inB y 0 5
 else if k = 4 ∨ k = 5 ∨ k = 6 then inB x 0 5 && inB y 0 0
 else if k = 7 then inB x 0 0 && inB y 0 11
 else if k = 8 then inB x 0 0 && inB y 0 3
 else false

theorem inB_nil (x : Int) : inB x 0 0 = (x == 0) := by
 unfold inB
 rw [Bool.eq_iff_iff]
 simp
 omega

theorem inB_wi (x n : Int) : inB x 0 n = wiB x (n + 1) := by
 unfold inB wiB
 rw [Bool.eq_iff_iff]
 simp
 omega

theorem kinds (k : Int) : k = 1 ∨ k = 2 ∨ k = 3 ∨ k = 4 ∨ k = 5 ∨ k = 6 ∨ k = 7 ∨ k = 8 ∨ k = 9 ∨ (k ≠ 1 ∧ k ≠ 2 ∧ k ≠ 3 ∧ k ≠ 4 ∧ k ≠ 5 ∧ k ≠ 6 ∧ k ≠ 7 ∧ k ≠ 8 ∧ k ≠ 9) := by omega

theorem specStmtOk (k x y : Int) (w : World) :
 Calls Try.prog 96 #[.agg #[.int .i64 k, .int .i64 x, .int .i64 y]] w fun e w' => e = .returned (.bool (stmtOk k x y)) ∧ Below w.heap.size w w' := by
 unfold stmtOk
 rw [inB_nil, inB_nil]
 rcases kinds k with rfl | rfl | rfl | rfl | rfl | rfl | rfl | rfl | rfl | ⟨h1, h2, h3, h4, h5, h6, h7, h8, h9⟩
 all_goals
  simp only [Int.reduceEq, or_false, or_true, or_self, if_true, if_false, *]
  first
   | cases hx : inB x 0 5
   | skip
  all_goals
   go_enter Try.func96, Try.ntmps96
   go_wp2_with (first | (go_at_call 51; refine (l1In _ _ _ _).mono ?_; rintro e w' ⟨rfl, rfl⟩))
   all_goals
    go_ret
    exact ⟨by simp [*], by go_grown⟩

theorem implStmtOk (k x y : Int) (w : World) :
 Calls Try.prog 136 #[.agg #[.int .i64 k, .int .i64 x, .int .i64 y]] w fun e w' => e = .returned (.bool (stmtOk k x y)) ∧ Below w.heap.size w w' := by
 unfold stmtOk
 rw [inB_wi, inB_wi, inB_wi, inB_wi, inB_wi, inB_wi]
 rcases kinds k with rfl | rfl | rfl | rfl | rfl | rfl | rfl | rfl | rfl | ⟨h1, h2, h3, h4, h5, h6, h7, h8, h9⟩
 all_goals
  simp only [Int.reduceEq, or_false, or_true, or_self, if_true, if_false, Int.reduceAdd, Int.zero_add, *]
  first
   | (cases hx : wiB x 1)
   | (cases hx : wiB x 6)
   | skip
  all_goals
   go_enter Try.func136, Try.ntmps136
   go_wp2_with (first | (go_at_call 137; refine (within _ _ _).mono ?_; rintro e w' ⟨rfl, rfl⟩))
   all_goals
    go_ret
    exact ⟨by simp [*], by go_grown⟩

end Go.Proofs.Ytnjbihfceckpfaa
