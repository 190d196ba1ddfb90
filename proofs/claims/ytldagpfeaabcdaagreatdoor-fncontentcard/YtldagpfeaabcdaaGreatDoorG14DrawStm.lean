/-
 Put together out of: Draw, DrawKit, DrawStm.
-/
import Derived.Test.YtldagpfeaabcdaaGreatDoorG00Ins
import Derived.Deep.Cut
namespace Go.Proofs.YtldagpfeaabcdaaGreatDoor
open Go.RowKit
set_option linter.unusedVariables false
set_option maxHeartbeats 4000000
def Cur (w : World) (g : Nat) (bs : List Int) : Prop :=
 ∃ ao cap, ∃ i : Nat, ∃ h : Int, w.heap[g]? = some (.cells #[.slice ao bs.length cap, .int .i64 i, .int .i64 h] 80 (0, 0)) ∧ i ≤ bs.length ∧
  ∀ j x, bs[j]? = some x → ∃ gg off, ao = some ⟨gg, off, none⟩ ∧ gg < g ∧ w.cell? ⟨gg, off + j, none⟩ = some (.int .u8 x)
theorem ju5 {w : World} {b : Nat} {x y z : Value} {t : TypeId} (h : w.heap[b]? = some (.cells #[x, y, z] t (0, 0))) :
 w.cell? ⟨b, 0, none⟩ = some x ∧ w.cell? ⟨b, 1, none⟩ = some y ∧ w.cell? ⟨b, 2, none⟩ = some z ∧ w.frozen? ⟨b, 0, none⟩ = false ∧ w.frozen? ⟨b, 1, none⟩ = false ∧ w.frozen? ⟨b, 2, none⟩ = false := by
 refine ⟨?_, ?_, ?_, ?_, ?_, ?_⟩ <;> simp [World.cell?, World.frozen?, h]
theorem and255 (y : Int) : 0 ≤ bits .and .i64 y 255 ∧ bits .and .i64 y 255 ≤ 255 := by
 have h : (BitVec.ofInt 64 y &&& BitVec.ofInt 64 255).toNat ≤ 255 := by
  rw [BitVec.toNat_and]
  have : (BitVec.ofInt 64 255).toNat = 255 := by decide
  rw [this]
  exact Nat.and_le_right
 show 0 ≤ IntKind.i64.wrap ((BitVec.ofInt 64 y &&& BitVec.ofInt 64 255).toNat : Int) ∧ IntKind.i64.wrap ((BitVec.ofInt 64 y &&& BitVec.ofInt 64 255).toNat : Int) ≤ 255
 generalize (BitVec.ofInt 64 y &&& BitVec.ofInt 64 255).toNat = n at h
 simp [IntKind.wrap, IntKind.bits, IntKind.signed]
 omega
theorem jp4 {w w' : World} {g : Nat} {bs : List Int} {row : Option Nat} (h : Cur w g bs) (hg : w.grownBy w' row) (hr : ∀ k, row = some k → g < k) : Cur w' g bs := by
 obtain ⟨ao, cap, i, h, hh, hi, hc⟩ := h
 refine ⟨ao, cap, i, h, ?_, hi, fun j x hx => ?_⟩
 · rw [hg.block g (Array.getElem?_eq_some_iff.1 hh).1 (fun e => by have := hr g e.symm; omega)]; exact hh
 · obtain ⟨gg, off, h1, h2, h3⟩ := hc j x hx
   exact ⟨gg, off, h1, h2, hg.cell h3 (fun e => by have h4 : g < gg := hr gg e.symm; omega)⟩
theorem jg5 {w w' : World} {g : Nat} {bs : List Int} (h : Cur w g bs) (hb : Below w.heap.size w w') : Cur w' g bs :=
 jp4 h (jb3 hb none) (by simp)
theorem set3_2 {w : World} {b : Nat} {x y z : Value} {t : TypeId} (h : w.heap[b]? = some (.cells #[x, y, z] t (0, 0))) (u : Value) : (w.setCell ⟨b, 2, none⟩ u).heap[b]? = some (.cells #[x, y, u] t (0, 0)) := by
 have := heap_setCell_same w b 2 _ t u h
 simpa using this
theorem set3_1 {w : World} {b : Nat} {x y z : Value} {t : TypeId} (h : w.heap[b]? = some (.cells #[x, y, z] t (0, 0))) (u : Value) : (w.setCell ⟨b, 1, none⟩ u).heap[b]? = some (.cells #[x, u, z] t (0, 0)) := by
 have := heap_setCell_same w b 1 _ t u h
 simpa using this
theorem jg0 (w : World) (b o : Nat) (u : Value) : w.grownBy (w.setCell ⟨b, o, none⟩ u) (some b) :=
 ⟨rfl, rfl, rfl, by simp, fun k _ hk => Below.heap_setCell _ _ _ _ (fun e => hk (by simp [e]))⟩
theorem jq0 {w w' : World} {row : Option Nat} (h : w.grownBy w' row) (n : Nat) : w.grownBy (w'.drewN n) row := ⟨h.os, h.tape, h.output, h.size, h.block⟩
theorem cur_of {w w1 : World} {g : Nat} {bs : List Int} {ao : Option Addr} {cap i i' : Nat} {h h' : Int}
 (_ : w.heap[g]? = some (.cells #[.slice ao bs.length cap, .int .i64 i, .int .i64 h] 80 (0, 0))) (hh : w1.heap[g]? = some (.cells #[.slice ao bs.length cap, .int .i64 i', .int .i64 h'] 80 (0, 0))) (hi : i' ≤ bs.length)
 (hc : ∀ j x, bs[j]? = some x → ∃ gg off, ao = some ⟨gg, off, none⟩ ∧ gg < g ∧ w.cell? ⟨gg, off + j, none⟩ = some (.int .u8 x)) (hg : w.grownBy w1 (some g)) (n : Nat) : Cur (w1.drewN n) g bs := by
 refine ⟨ao, cap, i', h', hh, hi, fun j x hx => ?_⟩
 obtain ⟨gg, off, h1, h2, h3⟩ := hc j x hx
 exact ⟨gg, off, h1, h2, hg.cell h3 (by simp; omega)⟩
theorem l1Byte (g : Nat) (bs : List Int) (w : World) (hl : bs.length ≤ 1048576) (hc : Cur w g bs) :
 Calls Tryz.prog 74 #[.pointer (some ⟨g, 0, none⟩)] w fun e w' => ∃ x : Int, e = .returned (.int .i64 x) ∧ 0 ≤ x ∧ x ≤ 255 ∧ Cur w' g bs ∧ w.grownBy w' (some g) := by
 obtain ⟨ao, cap, i, h, hh, hi, hcell⟩ := hc
 obtain ⟨c0, c1, c2, f0, f1, f2⟩ := ju5 hh
 have HH : Hid _ := hh
 clear hh
 by_cases hlt : i < bs.length
 · have HC : Hid (∀ j x, bs[j]? = some x → ∃ gg off, ao = some ⟨gg, off, none⟩ ∧ gg < g ∧ w.cell? ⟨gg, off + j, none⟩ = some (.int .u8 x)) := hcell
   obtain ⟨gg, off, rfl, hne, hx⟩ := hcell i bs[i] (by simp [hlt])
   clear hcell
   have hlt' : (i : Int) < (bs.length : Int) := by omega
   go_enter Tryz.func74, Tryz.ntmps74
   go_wp2
   generalize wrap64 (wrap64 (h * _) + _) = H
   have k1 := set3_2 HH.out (.int .i64 H)
   have gr1 := jg0 w g 2 (.int .i64 H)
   generalize w.setCell ⟨g, 2, none⟩ (.int .i64 H) = w1 at k1 gr1 ⊢
   clear c0 c1 c2 f0 f1 f2
   obtain ⟨c0, c1, c2, f0, f1, f2⟩ := ju5 k1
   have hx1 : w1.cell? ⟨gg, off + i, none⟩ = _ := gr1.cell hx (by simp; omega)
   have K1 : Hid _ := k1
   have GR1 : Hid _ := gr1
   clear k1 gr1 hx
   go_quiet (fail)
   go_wp2
   go_quiet (fail)
   go_wp2
   go_quiet (fail)
   go_wp2
   go_ret
   have gr2 : ∀ n, w.grownBy ((w1.drewN n).setCell ⟨g, 1, none⟩ (.int .i64 ((i : Int) + 1))) (some g) := fun n => ja8 (jq0 GR1.out n) (jg0 _ g 1 _)
   refine ⟨_, rfl, (and255 _).1, (and255 _).2, ?_, gr2 _⟩
   exact cur_of (i' := i + 1) HH.out (set3_1 (w := w1.drewN _) K1.out _) (by omega) HC.out (gr2 _) 0
 · go_enter Tryz.func74, Tryz.ntmps74
   go_wp2
   generalize wrap64 (wrap64 (h * _) + _) = H
   have k1 := set3_2 HH.out (.int .i64 H)
   have gr1 := jg0 w g 2 (.int .i64 H)
   generalize w.setCell ⟨g, 2, none⟩ (.int .i64 H) = w1 at k1 gr1 ⊢
   clear c0 c1 c2 f0 f1 f2
   obtain ⟨c0, c1, c2, f0, f1, f2⟩ := ju5 k1
   have K1 : Hid _ := k1
   have GR1 : Hid _ := gr1
   have HC : Hid (∀ j x, bs[j]? = some x → ∃ gg off, ao = some ⟨gg, off, none⟩ ∧ gg < g ∧ w.cell? ⟨gg, off + j, none⟩ = some (.int .u8 x)) := hcell
   clear k1 gr1 hcell
   go_quiet (fail)
   go_wp2
   go_quiet (fail)
   go_wp2
   go_ret
   refine ⟨_, rfl, (and255 _).1, (and255 _).2, ?_, jq0 (jq0 GR1.out _) _⟩
   exact cur_of (w1 := w1.drewN _) HH.out K1.out hi HC.out (jq0 GR1.out _) _
theorem rem_range (x n : Int) (h0 : 0 ≤ x) (hn : 0 < n) : 0 ≤ x % n ∧ x % n < n := ⟨Int.emod_nonneg _ (by omega), Int.emod_lt_of_pos _ hn⟩
theorem jf4 (g : Nat) (bs : List Int) (n : Int) (hn : n ≤ 4294967296) (w : World) (hl : bs.length ≤ 1048576) (hc : Cur w g bs) :
 Calls Tryz.prog 47 #[.pointer (some ⟨g, 0, none⟩), .int .i64 n] w fun e w' => ∃ x : Int, e = .returned (.int .i64 x) ∧ 0 ≤ x ∧ (0 < n → x < n) ∧ (n ≤ 0 → x = 0) ∧ Cur w' g bs ∧ w.grownBy w' (some g) := by
 by_cases h0 : n ≤ 0
 · go_enter Tryz.func47, Tryz.ntmps47
   go_wp2
   go_ret
   exact ⟨0, rfl, by omega, by omega, by omega, hc, World.grownBy.refl _ _⟩
 · have hn0 : (n == 0) = false := by simp; omega
   by_cases h1 : n ≤ 256
   · go_enter Tryz.func47, Tryz.ntmps47
     go_wp2_with (go_at_call 74; refine (l1Byte g bs _ hl hc).mono ?_; rintro e w1 ⟨x, rfl, hx0, hx1, hc1, hg1⟩)
     go_ret
     have := rem_range x n hx0 (by omega)
     exact ⟨_, rfl, this.1, fun _ => this.2, by omega, hc1, hg1⟩
   · go_enter Tryz.func47, Tryz.ntmps47
     go_wp2_with fail
     go_at_call 74
     refine (l1Byte g bs _ hl hc).mono ?_
     rintro e w1 ⟨x, rfl, hx0, hx1, hc1, hg1⟩
     go_wp2_with fail
     go_at_call 74
     refine (l1Byte g bs _ hl hc1).mono ?_
     rintro e w2 ⟨y, rfl, hy0, hy1, hc2, hg2⟩
     go_wp2_with fail
     go_at_call 74
     refine (l1Byte g bs _ hl hc2).mono ?_
     rintro e w3 ⟨z, rfl, hz0, hz1, hc3, hg3⟩
     go_wp2_with fail
     go_at_call 74
     refine (l1Byte g bs _ hl hc3).mono ?_
     rintro e w4 ⟨u, rfl, hu0, hu1, hc4, hg4⟩
     go_wp2
     go_ret
     have := rem_range (x * 16777216 + y * 65536 + z * 256 + u) n (by omega) (by omega)
     exact ⟨_, rfl, this.1, fun _ => this.2, by omega, hc4, ja8 hg1 (ja8 hg2 (ja8 hg3 hg4))⟩
theorem l1Once (g : Nat) (bs : List Int) (n : Int) (hn : n ≤ 4294967296) (w : World) (hl : bs.length ≤ 1048576) (hc : Cur w g bs) :
 Calls Tryz.prog 21 #[.pointer (some ⟨g, 0, none⟩), .int .i64 n] w fun e w' => ∃ b : Bool, e = .returned (.bool b) ∧ Cur w' g bs ∧ w.grownBy w' (some g) := by
 go_enter Tryz.func21, Tryz.ntmps21
 go_wp2_with (go_at_call 47; refine (jf4 g bs n hn _ hl hc).mono ?_; rintro e w1 ⟨x, rfl, hx0, hx1, hx2, hc1, hg1⟩)
 go_ret
 exact ⟨_, rfl, hc1, hg1⟩
theorem l1New (bs : List Int) (v : Value) (w : World) (hl : bs.length ≤ 1048576) (hv : jf8 w v (bs.map (Value.int .u8))) :
 Calls Tryz.prog 19 #[v] w fun e w' => ∃ g, e = .returned (.pointer (some ⟨g, 0, none⟩)) ∧ w.heap.size ≤ g ∧ Cur w' g bs ∧ Below w.heap.size w w' := by
 obtain ⟨ao, cap, rfl, hc⟩ := hv
 simp only [List.length_map]
 go_enter Tryz.func19, Tryz.ntmps19
 go_wp2
 go_loopw [3, 4] (fun q i wr => ∃ k : Nat, k ≤ bs.length ∧ i = .int .i64 k ∧ (∃ h : Int, q = .int .i64 h) ∧ Below w.heap.size w wr) (fun _ i _ => bs.length - (intOf i).toNat)
 case atStart => exact ⟨0, Nat.zero_le _, rfl, ⟨_, rfl⟩, Below.refl _ _⟩
 case round =>
  obtain ⟨k, hk, rfl, ⟨h, rfl⟩, hb⟩ := hrel
  by_cases hlt : k < bs.length
  · obtain ⟨g, off, rfl, hg⟩ := hc k (.int .u8 bs[k]) (by simp [hlt])
    have hg := (hb.cell (World.block_lt_of_cell? w _ hg)).trans hg
    have hlt' : (k : Int) < (bs.length : Int) := by omega
    clear hc
    go_wp2
    go_roundw
    case rel => exact ⟨k + 1, by omega, by go_num, ⟨_, rfl⟩, hb⟩
    case measure => simp [intOf]; omega
  · go_wp2
    go_ret
    have hs := hb.size
    refine ⟨_, rfl, hs, ?_, hb.alloc hs _⟩
    refine ⟨ao, cap, 0, h, heap_alloc_new wr _, Nat.zero_le _, fun j x hx => ?_⟩
    obtain ⟨gg, off, h1, h2⟩ := hc j (.int .u8 x) (by simp [hx])
    have hlt := World.block_lt_of_cell? w _ h2
    refine ⟨gg, off, h1, by have : gg < w.heap.size := hlt; omega, ?_⟩
    rw [World.cell?_alloc_lt (h := by have : gg < w.heap.size := hlt; show gg < wr.heap.size; omega)]
    exact (hb.cell hlt).trans h2
end Go.Proofs.YtldagpfeaabcdaaGreatDoor
namespace Go.Proofs.YtldagpfeaabcdaaGreatDoor
open Go.RowKit
set_option linter.unusedVariables false
theorem jv8 {w : World} {g : Nat} {bs : List Int} (h : Cur w g bs) : g < w.heap.size := by
 obtain ⟨ao, cap, i, h, hh, _⟩ := h
 exact (Array.getElem?_eq_some_iff.1 hh).1
theorem jg6 {w : World} {g : Nat} {bs : List Int} (h : Cur w g bs) (o : Obj) : Cur (w.alloc o) g bs := jg5 h (Below.alloc (Below.refl _ _) (Nat.le_refl _) o)
theorem jf3 {a w : World} {row : Option Nat} (h : a.grownBy w row) (o : Obj) : a.grownBy (w.alloc o) row := ja8 h (World.grownBy_alloc w o row)
theorem jb6 {a w : World} {row : Option Nat} (h : a.grownBy w row) {b o : Nat} (hb : a.heap.size ≤ b) (u : Value) : a.grownBy (w.setCell ⟨b, o, none⟩ u) row :=
 ⟨h.os, h.tape, h.output, by simpa [World.setCell] using h.size, fun k hk hr => (Below.heap_setCell _ _ _ _ (by simp; omega)).trans (h.block k hk hr)⟩
theorem jb4 {wr wr' : World} {g b : Nat} {o : Obj} (h : wr.heap[b]? = some o) (hg : wr.grownBy wr' (some g)) (hb : g < b) : wr'.heap[b]? = some o := by
 rw [hg.block b (Array.getElem?_eq_some_iff.1 h).1 (by simp; omega)]; exact h
theorem jc6 {w : World} {g : Nat} {bs : List Int} (h : Cur w g bs) {b o : Nat} (hb : g < b) (u : Value) : Cur (w.setCell ⟨b, o, none⟩ u) g bs :=
 jp4 h (jg0 w b o u) (by simp; omega)
theorem jb7 {w : World} {b : Nat} {x0 x1 x2 : Value} {T : TypeId} (h : w.heap[b]? = some (.cells #[x0, x1, x2] T (0, 0))) :
 w.cell? ⟨b, 0, none⟩ = some x0 ∧ w.cell? ⟨b, 1, none⟩ = some x1 ∧ w.cell? ⟨b, 2, none⟩ = some x2 ∧
  w.frozen? ⟨b, 0, none⟩ = false ∧ w.frozen? ⟨b, 1, none⟩ = false ∧ w.frozen? ⟨b, 2, none⟩ = false := by
 refine ⟨?_, ?_, ?_, ?_, ?_, ?_⟩ <;> simp [World.cell?, World.frozen?, h]
theorem jm2 {w : World} {b : Nat} {p0 p1 p2 : Value} {t : TypeId} (h : w.heap[b]? = some (.cells #[p0, p1, p2] t (0, 0))) (x0 x1 x2 : Value) :
 (((w.setCell ⟨b, 0, none⟩ x0).setCell ⟨b, 1, none⟩ x1).setCell ⟨b, 2, none⟩ x2).heap[b]? = some (.cells #[x0, x1, x2] t (0, 0)) := by
 have h1 := heap_setCell_same w b 0 _ t x0 h
 have h2 := heap_setCell_same _ b 1 _ t x1 h1
 have h3 := heap_setCell_same _ b 2 _ t x2 h2
 simpa using h3
end Go.Proofs.YtldagpfeaabcdaaGreatDoor
namespace Go.Proofs.YtldagpfeaabcdaaGreatDoor
open Go.RowKit
set_option linter.unusedVariables false
set_option maxHeartbeats 1000000
theorem qh6 (g : Nat) (bs : List Int) (n procs : Int) (hn : n ≤ 4294967296) (hq : procs ≤ 4294967296) (w : World) (hl : bs.length ≤ 1048576) (hc : Cur w g bs) :
 Calls Tryz.prog 52 #[.pointer (some ⟨g, 0, none⟩), .int .i64 n, .int .i64 procs] w fun e w' =>
  ∃ k x y : Int, e = .returned (.agg #[.int .i64 k, .int .i64 x, .int .i64 y]) ∧ Cur w' g bs ∧ w.grownBy w' (some g) := by
 have hgw := jv8 hc
 have hcA := jg6 hc (.cells #[.int .i64 0, .int .i64 0, .int .i64 0] 52)
 have HA := heap_alloc_new w (.cells #[.int .i64 0, .int .i64 0, .int .i64 0] 52)
 have gA := World.grownBy_alloc w (.cells #[.int .i64 0, .int .i64 0, .int .i64 0] 52) (some g)
 go_enter Tryz.func52, Tryz.ntmps52
 go_wp2_with fail
 go_at_call 47
 refine (jf4 g bs 9 (by omega) _ hl hcA).mono ?_
 rintro e w1 ⟨z, rfl, hz0, hz1, _, hc1, hg1⟩
 have hz1 := hz1 (by omega)
 have R1 := jb4 HA hg1 hgw
 have G1 := ja8 gA hg1
 clear hcA HA gA hg1
 have hg1l := jv8 hc1
 have z1 : w.heap.size < w1.heap.size := (Array.getElem?_eq_some_iff.1 R1).1
 have hc2 := jg6 hc1 (.cells #[.int .i64 (1 + z), .int .i64 0, .int .i64 0] 52)
 have X2 := heap_alloc_new w1 (.cells #[.int .i64 (1 + z), .int .i64 0, .int .i64 0] 52)
 have R2 := (ja2 (o := .cells #[.int .i64 (1 + z), .int .i64 0, .int .i64 0] 52) z1).trans R1
 have G2 := jf3 G1 (.cells #[.int .i64 (1 + z), .int .i64 0, .int .i64 0] 52)
 clear R1 hc1
 have fin : True := trivial
 obtain ⟨S, hS⟩ : ∃ S, w1.heap.size = S := ⟨_, rfl⟩
 have hgS : g < S := by omega
 have hwS : w.heap.size < S := by omega
 have hk : z = 0 ∨ z = 1 ∨ z = 2 ∨ z = 3 ∨ z = 4 ∨ z = 5 ∨ z = 6 ∨ z = 7 ∨ z = 8 := by omega
 clear fin
 rcases hk with rfl | rfl | rfl | rfl | rfl | rfl | rfl | rfl | rfl
 · simp only [Int.add_zero] at hc2 X2 R2 G2
   rw [hS] at X2
   have XV := X2
   have RV := R2
   have hcV := hc2
   have GV := G2
   clear X2 R2 hc2 G2
   go_upto_region 18 with fail
   generalize (w1.alloc (.cells #[.int .i64 1, .int .i64 0, .int .i64 0] 52)) = V at *
   obtain ⟨c0, c1, c2, f0, f1, f2⟩ := jb7 XV
   obtain ⟨e0, e1, e2, i0, i1, i2⟩ := jb7 RV
   have T := jm2 RV (.int .i64 1) (.int .i64 0) (.int .i64 0)
   obtain ⟨d0, d1, d2, _⟩ := jb7 T
   clear XV RV T
   go_wp2
   refine bodyPost_ret (v := .agg #[(.int .i64 1), (.int .i64 0), (.int .i64 0)]) (by simp [results, Tryz.results52, go_sem, d0, d1, d2]) rfl ?_
   exact ⟨_, _, _, rfl, jc6 (jc6 (jc6 hcV hgw _) hgw _) hgw _, jb6 (jb6 (jb6 GV (Nat.le_refl _) _) (Nat.le_refl _) _) (Nat.le_refl _) _⟩
 · simp only [Int.reduceAdd] at hc2 X2 R2 G2
   rw [hS] at X2
   have XV := X2
   have RV := R2
   have hcV := hc2
   have GV := G2
   clear X2 R2 hc2 G2
   go_wp2_with fail
   go_at_call 47
   refine (jf4 g bs 6 (by omega) _ hl hcV).mono ?_
   rintro e w3 ⟨x, rfl, _, _, _, hcN, hgN⟩
   have XN := jb4 XV hgN hgS
   have RN := jb4 RV hgN hgw
   have GN := ja8 GV hgN
   clear XV RV hcV GV hgN
   obtain ⟨c0, c1, c2, f0, f1, f2⟩ := jb7 XN
   have XV : (w3.setCell ⟨S, 1, none⟩ (.int .i64 x)).heap[S]? = some (.cells #[.int .i64 2, .int .i64 x, .int .i64 0] 52 (0, 0)) := by
    have := heap_setCell_same w3 S 1 _ 52 (.int .i64 x) XN
    simpa using this
   have RV : (w3.setCell ⟨S, 1, none⟩ (.int .i64 x)).heap[w.heap.size]? = _ := (Below.heap_setCell w3 ⟨S, 1, none⟩ (.int .i64 x) _ (by simp; omega)).trans RN
   have hcV : Cur (w3.setCell ⟨S, 1, none⟩ (.int .i64 x)) g bs := jc6 hcN hgS _
   have GV : w.grownBy (w3.setCell ⟨S, 1, none⟩ (.int .i64 x)) (some g) := jb6 GN (by omega) _
   clear XN RN hcN GN
   go_wp2_with fail
   go_at_call 47
   refine (jf4 g bs 6 (by omega) _ hl hcV).mono ?_
   rintro e w4 ⟨y, rfl, _, _, _, hcN, hgN⟩
   have XN := jb4 XV hgN hgS
   have RN := jb4 RV hgN hgw
   have GN := ja8 GV hgN
   clear XV RV hcV GV hgN
   clear c0 c1 c2 f0 f1 f2
   obtain ⟨c0, c1, c2, f0, f1, f2⟩ := jb7 XN
   have XV : (w4.setCell ⟨S, 2, none⟩ (.int .i64 y)).heap[S]? = some (.cells #[.int .i64 2, .int .i64 x, .int .i64 y] 52 (0, 0)) := by
    have := heap_setCell_same w4 S 2 _ 52 (.int .i64 y) XN
    simpa using this
   have RV : (w4.setCell ⟨S, 2, none⟩ (.int .i64 y)).heap[w.heap.size]? = _ := (Below.heap_setCell w4 ⟨S, 2, none⟩ (.int .i64 y) _ (by simp; omega)).trans RN
   have hcV : Cur (w4.setCell ⟨S, 2, none⟩ (.int .i64 y)) g bs := jc6 hcN hgS _
   have GV : w.grownBy (w4.setCell ⟨S, 2, none⟩ (.int .i64 y)) (some g) := jb6 GN (by omega) _
   clear XN RN hcN GN
   go_upto_region 18 with fail
   clear c0 c1 c2 f0 f1 f2
   generalize (w4.setCell ⟨S, 2, none⟩ (.int .i64 y)) = V at *
   obtain ⟨c0, c1, c2, f0, f1, f2⟩ := jb7 XV
   obtain ⟨e0, e1, e2, i0, i1, i2⟩ := jb7 RV
   have T := jm2 RV (.int .i64 2) (.int .i64 x) (.int .i64 y)
   obtain ⟨d0, d1, d2, _⟩ := jb7 T
   clear XV RV T
   go_wp2
   refine bodyPost_ret (v := .agg #[(.int .i64 2), (.int .i64 x), (.int .i64 y)]) (by simp [results, Tryz.results52, go_sem, d0, d1, d2]) rfl ?_
   exact ⟨_, _, _, rfl, jc6 (jc6 (jc6 hcV hgw _) hgw _) hgw _, jb6 (jb6 (jb6 GV (Nat.le_refl _) _) (Nat.le_refl _) _) (Nat.le_refl _) _⟩
 · simp only [Int.reduceAdd] at hc2 X2 R2 G2
   rw [hS] at X2
   have XV := X2
   have RV := R2
   have hcV := hc2
   have GV := G2
   clear X2 R2 hc2 G2
   go_wp2_with fail
   go_at_call 47
   refine (jf4 g bs 6 (by omega) _ hl hcV).mono ?_
   rintro e w3 ⟨x, rfl, _, _, _, hcN, hgN⟩
   have XN := jb4 XV hgN hgS
   have RN := jb4 RV hgN hgw
   have GN := ja8 GV hgN
   clear XV RV hcV GV hgN
   obtain ⟨c0, c1, c2, f0, f1, f2⟩ := jb7 XN
   have XV : (w3.setCell ⟨S, 1, none⟩ (.int .i64 x)).heap[S]? = some (.cells #[.int .i64 3, .int .i64 x, .int .i64 0] 52 (0, 0)) := by
    have := heap_setCell_same w3 S 1 _ 52 (.int .i64 x) XN
    simpa using this
   have RV : (w3.setCell ⟨S, 1, none⟩ (.int .i64 x)).heap[w.heap.size]? = _ := (Below.heap_setCell w3 ⟨S, 1, none⟩ (.int .i64 x) _ (by simp; omega)).trans RN
   have hcV : Cur (w3.setCell ⟨S, 1, none⟩ (.int .i64 x)) g bs := jc6 hcN hgS _
   have GV : w.grownBy (w3.setCell ⟨S, 1, none⟩ (.int .i64 x)) (some g) := jb6 GN (by omega) _
   clear XN RN hcN GN
   go_wp2_with fail
   go_at_call 47
   refine (jf4 g bs 6 (by omega) _ hl hcV).mono ?_
   rintro e w4 ⟨y, rfl, _, _, _, hcN, hgN⟩
   have XN := jb4 XV hgN hgS
   have RN := jb4 RV hgN hgw
   have GN := ja8 GV hgN
   clear XV RV hcV GV hgN
   clear c0 c1 c2 f0 f1 f2
   obtain ⟨c0, c1, c2, f0, f1, f2⟩ := jb7 XN
   have XV : (w4.setCell ⟨S, 2, none⟩ (.int .i64 y)).heap[S]? = some (.cells #[.int .i64 3, .int .i64 x, .int .i64 y] 52 (0, 0)) := by
    have := heap_setCell_same w4 S 2 _ 52 (.int .i64 y) XN
    simpa using this
   have RV : (w4.setCell ⟨S, 2, none⟩ (.int .i64 y)).heap[w.heap.size]? = _ := (Below.heap_setCell w4 ⟨S, 2, none⟩ (.int .i64 y) _ (by simp; omega)).trans RN
   have hcV : Cur (w4.setCell ⟨S, 2, none⟩ (.int .i64 y)) g bs := jc6 hcN hgS _
   have GV : w.grownBy (w4.setCell ⟨S, 2, none⟩ (.int .i64 y)) (some g) := jb6 GN (by omega) _
   clear XN RN hcN GN
   go_upto_region 18 with fail
   clear c0 c1 c2 f0 f1 f2
   generalize (w4.setCell ⟨S, 2, none⟩ (.int .i64 y)) = V at *
   obtain ⟨c0, c1, c2, f0, f1, f2⟩ := jb7 XV
   obtain ⟨e0, e1, e2, i0, i1, i2⟩ := jb7 RV
   have T := jm2 RV (.int .i64 3) (.int .i64 x) (.int .i64 y)
   obtain ⟨d0, d1, d2, _⟩ := jb7 T
   clear XV RV T
   go_wp2
   refine bodyPost_ret (v := .agg #[(.int .i64 3), (.int .i64 x), (.int .i64 y)]) (by simp [results, Tryz.results52, go_sem, d0, d1, d2]) rfl ?_
   exact ⟨_, _, _, rfl, jc6 (jc6 (jc6 hcV hgw _) hgw _) hgw _, jb6 (jb6 (jb6 GV (Nat.le_refl _) _) (Nat.le_refl _) _) (Nat.le_refl _) _⟩
 · simp only [Int.reduceAdd] at hc2 X2 R2 G2
   rw [hS] at X2
   have XV := X2
   have RV := R2
   have hcV := hc2
   have GV := G2
   clear X2 R2 hc2 G2
   go_wp2_with fail
   go_at_call 47
   refine (jf4 g bs 6 (by omega) _ hl hcV).mono ?_
   rintro e w3 ⟨x, rfl, _, _, _, hcN, hgN⟩
   have XN := jb4 XV hgN hgS
   have RN := jb4 RV hgN hgw
   have GN := ja8 GV hgN
   clear XV RV hcV GV hgN
   obtain ⟨c0, c1, c2, f0, f1, f2⟩ := jb7 XN
   have XV : (w3.setCell ⟨S, 1, none⟩ (.int .i64 x)).heap[S]? = some (.cells #[.int .i64 4, .int .i64 x, .int .i64 0] 52 (0, 0)) := by
    have := heap_setCell_same w3 S 1 _ 52 (.int .i64 x) XN
    simpa using this
   have RV : (w3.setCell ⟨S, 1, none⟩ (.int .i64 x)).heap[w.heap.size]? = _ := (Below.heap_setCell w3 ⟨S, 1, none⟩ (.int .i64 x) _ (by simp; omega)).trans RN
   have hcV : Cur (w3.setCell ⟨S, 1, none⟩ (.int .i64 x)) g bs := jc6 hcN hgS _
   have GV : w.grownBy (w3.setCell ⟨S, 1, none⟩ (.int .i64 x)) (some g) := jb6 GN (by omega) _
   clear XN RN hcN GN
   go_upto_region 18 with fail
   clear c0 c1 c2 f0 f1 f2
   generalize (w3.setCell ⟨S, 1, none⟩ (.int .i64 x)) = V at *
   obtain ⟨c0, c1, c2, f0, f1, f2⟩ := jb7 XV
   obtain ⟨e0, e1, e2, i0, i1, i2⟩ := jb7 RV
   have T := jm2 RV (.int .i64 4) (.int .i64 x) (.int .i64 0)
   obtain ⟨d0, d1, d2, _⟩ := jb7 T
   clear XV RV T
   go_wp2
   refine bodyPost_ret (v := .agg #[(.int .i64 4), (.int .i64 x), (.int .i64 0)]) (by simp [results, Tryz.results52, go_sem, d0, d1, d2]) rfl ?_
   exact ⟨_, _, _, rfl, jc6 (jc6 (jc6 hcV hgw _) hgw _) hgw _, jb6 (jb6 (jb6 GV (Nat.le_refl _) _) (Nat.le_refl _) _) (Nat.le_refl _) _⟩
 · simp only [Int.reduceAdd] at hc2 X2 R2 G2
   rw [hS] at X2
   have XV := X2
   have RV := R2
   have hcV := hc2
   have GV := G2
   clear X2 R2 hc2 G2
   go_wp2_with fail
   go_at_call 47
   refine (jf4 g bs 6 (by omega) _ hl hcV).mono ?_
   rintro e w3 ⟨x, rfl, _, _, _, hcN, hgN⟩
   have XN := jb4 XV hgN hgS
   have RN := jb4 RV hgN hgw
   have GN := ja8 GV hgN
   clear XV RV hcV GV hgN
   obtain ⟨c0, c1, c2, f0, f1, f2⟩ := jb7 XN
   have XV : (w3.setCell ⟨S, 1, none⟩ (.int .i64 x)).heap[S]? = some (.cells #[.int .i64 5, .int .i64 x, .int .i64 0] 52 (0, 0)) := by
    have := heap_setCell_same w3 S 1 _ 52 (.int .i64 x) XN
    simpa using this
   have RV : (w3.setCell ⟨S, 1, none⟩ (.int .i64 x)).heap[w.heap.size]? = _ := (Below.heap_setCell w3 ⟨S, 1, none⟩ (.int .i64 x) _ (by simp; omega)).trans RN
   have hcV : Cur (w3.setCell ⟨S, 1, none⟩ (.int .i64 x)) g bs := jc6 hcN hgS _
   have GV : w.grownBy (w3.setCell ⟨S, 1, none⟩ (.int .i64 x)) (some g) := jb6 GN (by omega) _
   clear XN RN hcN GN
   go_upto_region 18 with fail
   clear c0 c1 c2 f0 f1 f2
   generalize (w3.setCell ⟨S, 1, none⟩ (.int .i64 x)) = V at *
   obtain ⟨c0, c1, c2, f0, f1, f2⟩ := jb7 XV
   obtain ⟨e0, e1, e2, i0, i1, i2⟩ := jb7 RV
   have T := jm2 RV (.int .i64 5) (.int .i64 x) (.int .i64 0)
   obtain ⟨d0, d1, d2, _⟩ := jb7 T
   clear XV RV T
   go_wp2
   refine bodyPost_ret (v := .agg #[(.int .i64 5), (.int .i64 x), (.int .i64 0)]) (by simp [results, Tryz.results52, go_sem, d0, d1, d2]) rfl ?_
   exact ⟨_, _, _, rfl, jc6 (jc6 (jc6 hcV hgw _) hgw _) hgw _, jb6 (jb6 (jb6 GV (Nat.le_refl _) _) (Nat.le_refl _) _) (Nat.le_refl _) _⟩
 · simp only [Int.reduceAdd] at hc2 X2 R2 G2
   rw [hS] at X2
   have XV := X2
   have RV := R2
   have hcV := hc2
   have GV := G2
   clear X2 R2 hc2 G2
   go_wp2_with fail
   go_at_call 47
   refine (jf4 g bs 6 (by omega) _ hl hcV).mono ?_
   rintro e w3 ⟨x, rfl, _, _, _, hcN, hgN⟩
   have XN := jb4 XV hgN hgS
   have RN := jb4 RV hgN hgw
   have GN := ja8 GV hgN
   clear XV RV hcV GV hgN
   obtain ⟨c0, c1, c2, f0, f1, f2⟩ := jb7 XN
   have XV : (w3.setCell ⟨S, 1, none⟩ (.int .i64 x)).heap[S]? = some (.cells #[.int .i64 6, .int .i64 x, .int .i64 0] 52 (0, 0)) := by
    have := heap_setCell_same w3 S 1 _ 52 (.int .i64 x) XN
    simpa using this
   have RV : (w3.setCell ⟨S, 1, none⟩ (.int .i64 x)).heap[w.heap.size]? = _ := (Below.heap_setCell w3 ⟨S, 1, none⟩ (.int .i64 x) _ (by simp; omega)).trans RN
   have hcV : Cur (w3.setCell ⟨S, 1, none⟩ (.int .i64 x)) g bs := jc6 hcN hgS _
   have GV : w.grownBy (w3.setCell ⟨S, 1, none⟩ (.int .i64 x)) (some g) := jb6 GN (by omega) _
   clear XN RN hcN GN
   go_upto_region 18 with fail
   clear c0 c1 c2 f0 f1 f2
   generalize (w3.setCell ⟨S, 1, none⟩ (.int .i64 x)) = V at *
   obtain ⟨c0, c1, c2, f0, f1, f2⟩ := jb7 XV
   obtain ⟨e0, e1, e2, i0, i1, i2⟩ := jb7 RV
   have T := jm2 RV (.int .i64 6) (.int .i64 x) (.int .i64 0)
   obtain ⟨d0, d1, d2, _⟩ := jb7 T
   clear XV RV T
   go_wp2
   refine bodyPost_ret (v := .agg #[(.int .i64 6), (.int .i64 x), (.int .i64 0)]) (by simp [results, Tryz.results52, go_sem, d0, d1, d2]) rfl ?_
   exact ⟨_, _, _, rfl, jc6 (jc6 (jc6 hcV hgw _) hgw _) hgw _, jb6 (jb6 (jb6 GV (Nat.le_refl _) _) (Nat.le_refl _) _) (Nat.le_refl _) _⟩
 · simp only [Int.reduceAdd] at hc2 X2 R2 G2
   rw [hS] at X2
   have XV := X2
   have RV := R2
   have hcV := hc2
   have GV := G2
   clear X2 R2 hc2 G2
   go_wp2_with fail
   go_at_call 47
   refine (jf4 g bs n (by omega) _ hl hcV).mono ?_
   rintro e w3 ⟨x, rfl, _, _, _, hcN, hgN⟩
   have XN := jb4 XV hgN hgS
   have RN := jb4 RV hgN hgw
   have GN := ja8 GV hgN
   clear XV RV hcV GV hgN
   obtain ⟨c0, c1, c2, f0, f1, f2⟩ := jb7 XN
   have XV : (w3.setCell ⟨S, 2, none⟩ (.int .i64 x)).heap[S]? = some (.cells #[.int .i64 7, .int .i64 0, .int .i64 x] 52 (0, 0)) := by
    have := heap_setCell_same w3 S 2 _ 52 (.int .i64 x) XN
    simpa using this
   have RV : (w3.setCell ⟨S, 2, none⟩ (.int .i64 x)).heap[w.heap.size]? = _ := (Below.heap_setCell w3 ⟨S, 2, none⟩ (.int .i64 x) _ (by simp; omega)).trans RN
   have hcV : Cur (w3.setCell ⟨S, 2, none⟩ (.int .i64 x)) g bs := jc6 hcN hgS _
   have GV : w.grownBy (w3.setCell ⟨S, 2, none⟩ (.int .i64 x)) (some g) := jb6 GN (by omega) _
   clear XN RN hcN GN
   go_upto_region 18 with fail
   clear c0 c1 c2 f0 f1 f2
   generalize (w3.setCell ⟨S, 2, none⟩ (.int .i64 x)) = V at *
   obtain ⟨c0, c1, c2, f0, f1, f2⟩ := jb7 XV
   obtain ⟨e0, e1, e2, i0, i1, i2⟩ := jb7 RV
   have T := jm2 RV (.int .i64 7) (.int .i64 0) (.int .i64 x)
   obtain ⟨d0, d1, d2, _⟩ := jb7 T
   clear XV RV T
   go_wp2
   refine bodyPost_ret (v := .agg #[(.int .i64 7), (.int .i64 0), (.int .i64 x)]) (by simp [results, Tryz.results52, go_sem, d0, d1, d2]) rfl ?_
   exact ⟨_, _, _, rfl, jc6 (jc6 (jc6 hcV hgw _) hgw _) hgw _, jb6 (jb6 (jb6 GV (Nat.le_refl _) _) (Nat.le_refl _) _) (Nat.le_refl _) _⟩
 · simp only [Int.reduceAdd] at hc2 X2 R2 G2
   rw [hS] at X2
   have XV := X2
   have RV := R2
   have hcV := hc2
   have GV := G2
   clear X2 R2 hc2 G2
   go_wp2_with fail
   go_at_call 47
   refine (jf4 g bs procs (by omega) _ hl hcV).mono ?_
   rintro e w3 ⟨x, rfl, _, _, _, hcN, hgN⟩
   have XN := jb4 XV hgN hgS
   have RN := jb4 RV hgN hgw
   have GN := ja8 GV hgN
   clear XV RV hcV GV hgN
   obtain ⟨c0, c1, c2, f0, f1, f2⟩ := jb7 XN
   have XV : (w3.setCell ⟨S, 2, none⟩ (.int .i64 x)).heap[S]? = some (.cells #[.int .i64 8, .int .i64 0, .int .i64 x] 52 (0, 0)) := by
    have := heap_setCell_same w3 S 2 _ 52 (.int .i64 x) XN
    simpa using this
   have RV : (w3.setCell ⟨S, 2, none⟩ (.int .i64 x)).heap[w.heap.size]? = _ := (Below.heap_setCell w3 ⟨S, 2, none⟩ (.int .i64 x) _ (by simp; omega)).trans RN
   have hcV : Cur (w3.setCell ⟨S, 2, none⟩ (.int .i64 x)) g bs := jc6 hcN hgS _
   have GV : w.grownBy (w3.setCell ⟨S, 2, none⟩ (.int .i64 x)) (some g) := jb6 GN (by omega) _
   clear XN RN hcN GN
   go_upto_region 18 with fail
   clear c0 c1 c2 f0 f1 f2
   generalize (w3.setCell ⟨S, 2, none⟩ (.int .i64 x)) = V at *
   obtain ⟨c0, c1, c2, f0, f1, f2⟩ := jb7 XV
   obtain ⟨e0, e1, e2, i0, i1, i2⟩ := jb7 RV
   have T := jm2 RV (.int .i64 8) (.int .i64 0) (.int .i64 x)
   obtain ⟨d0, d1, d2, _⟩ := jb7 T
   clear XV RV T
   go_wp2
   refine bodyPost_ret (v := .agg #[(.int .i64 8), (.int .i64 0), (.int .i64 x)]) (by simp [results, Tryz.results52, go_sem, d0, d1, d2]) rfl ?_
   exact ⟨_, _, _, rfl, jc6 (jc6 (jc6 hcV hgw _) hgw _) hgw _, jb6 (jb6 (jb6 GV (Nat.le_refl _) _) (Nat.le_refl _) _) (Nat.le_refl _) _⟩
 · simp only [Int.reduceAdd] at hc2 X2 R2 G2
   rw [hS] at X2
   have XV := X2
   have RV := R2
   have hcV := hc2
   have GV := G2
   clear X2 R2 hc2 G2
   go_wp2_with fail
   go_at_call 21
   refine (l1Once g bs 4 (by omega) _ hl hcV).mono ?_
   rintro e w3 ⟨b, rfl, hcN, hgN⟩
   have XN := jb4 XV hgN hgS
   have RN := jb4 RV hgN hgw
   have GN := ja8 GV hgN
   clear XV RV hcV GV hgN
   cases b
   · obtain ⟨c0, c1, c2, f0, f1, f2⟩ := jb7 XN
     have XV : (w3.setCell ⟨S, 0, none⟩ (.int .i64 1)).heap[S]? = some (.cells #[.int .i64 1, .int .i64 0, .int .i64 0] 52 (0, 0)) := by
      have := heap_setCell_same w3 S 0 _ 52 (.int .i64 1) XN
      simpa using this
     have RV : (w3.setCell ⟨S, 0, none⟩ (.int .i64 1)).heap[w.heap.size]? = _ := (Below.heap_setCell w3 ⟨S, 0, none⟩ (.int .i64 1) _ (by simp; omega)).trans RN
     have hcV : Cur (w3.setCell ⟨S, 0, none⟩ (.int .i64 1)) g bs := jc6 hcN hgS _
     have GV : w.grownBy (w3.setCell ⟨S, 0, none⟩ (.int .i64 1)) (some g) := jb6 GN (by omega) _
     clear XN RN hcN GN
     go_upto_region 18 with fail
     clear c0 c1 c2 f0 f1 f2
     generalize (w3.setCell ⟨S, 0, none⟩ (.int .i64 1)) = V at *
     obtain ⟨c0, c1, c2, f0, f1, f2⟩ := jb7 XV
     obtain ⟨e0, e1, e2, i0, i1, i2⟩ := jb7 RV
     have T := jm2 RV (.int .i64 1) (.int .i64 0) (.int .i64 0)
     obtain ⟨d0, d1, d2, _⟩ := jb7 T
     clear XV RV T
     go_wp2
     refine bodyPost_ret (v := .agg #[(.int .i64 1), (.int .i64 0), (.int .i64 0)]) (by simp [results, Tryz.results52, go_sem, d0, d1, d2]) rfl ?_
     exact ⟨_, _, _, rfl, jc6 (jc6 (jc6 hcV hgw _) hgw _) hgw _, jb6 (jb6 (jb6 GV (Nat.le_refl _) _) (Nat.le_refl _) _) (Nat.le_refl _) _⟩
   · have XV := XN
     have RV := RN
     have hcV := hcN
     have GV := GN
     clear XN RN hcN GN
     go_upto_region 18 with fail
     generalize w3 = V at *
     obtain ⟨c0, c1, c2, f0, f1, f2⟩ := jb7 XV
     obtain ⟨e0, e1, e2, i0, i1, i2⟩ := jb7 RV
     have T := jm2 RV (.int .i64 9) (.int .i64 0) (.int .i64 0)
     obtain ⟨d0, d1, d2, _⟩ := jb7 T
     clear XV RV T
     go_wp2
     refine bodyPost_ret (v := .agg #[(.int .i64 9), (.int .i64 0), (.int .i64 0)]) (by simp [results, Tryz.results52, go_sem, d0, d1, d2]) rfl ?_
     exact ⟨_, _, _, rfl, jc6 (jc6 (jc6 hcV hgw _) hgw _) hgw _, jb6 (jb6 (jb6 GV (Nat.le_refl _) _) (Nat.le_refl _) _) (Nat.le_refl _) _⟩
end Go.Proofs.YtldagpfeaabcdaaGreatDoor
