/-
 Chapter 11, the program's side: placeOf, stmtAt, begin.
-/
import Derived.Test.YtnjbihfceckpfaaG00Stmt
import Derived.Test.YtnjbihfceckpfaaG42FindSt
import Derived.BigRegion
import Derived.Deep.RegionHeld3
namespace Go.Proofs.Ytnjbihfceckpfaa
open Go.RowKit
set_option linter.unusedVariables false
set_option linter.unusedSimpArgs false
set_option maxHeartbeats 4000000
set_option maxRecDepth 20000

theorem blk2 {w : World} {b : Nat} {x0 x1 : Value} {T : TypeId} (h : w.heap[b]? = some (.cells #[x0, x1] T (0, 0))) : w.cell? ⟨b, 0, none⟩ = some x0 ∧ w.cell? ⟨b, 1, none⟩ = some x1 := by
 simp [World.cell?, h]
theorem blk3 {w : World} {b : Nat} {x0 x1 x2 : Value} {T : TypeId} (h : w.heap[b]? = some (.cells #[x0, x1, x2] T (0, 0))) : w.cell? ⟨b, 0, none⟩ = some x0 ∧ w.cell? ⟨b, 1, none⟩ = some x1 ∧ w.cell? ⟨b, 2, none⟩ = some x2 := by
 simp [World.cell?, h]

theorem blk2f {w : World} {b : Nat} {x0 x1 : Value} {T : TypeId} (h : w.heap[b]? = some (.cells #[x0, x1] T (0, 0))) : w.frozen? ⟨b, 0, none⟩ = false ∧ w.frozen? ⟨b, 1, none⟩ = false := by
 simp [World.frozen?, h]
theorem blk2set {w : World} {b : Nat} {p q : Value} {t : TypeId} (h : w.heap[b]? = some (.cells #[p, q] t (0, 0))) (x y : Value) : ((w.setCell ⟨b, 0, none⟩ x).setCell ⟨b, 1, none⟩ y).heap[b]? = some (.cells #[x, y] t (0, 0)) := by
 rw [heap_setCell_same _ b 1 _ t y (heap_setCell_same w b 0 _ t x h)]
 rfl

theorem cell_grown {w w' : World} {A b : Nat} (h : w.grownBy w' (some A)) (hb : b ≠ A) (hl : b < w.heap.size) (o : Nat) : w'.cell? ⟨b, o, none⟩ = w.cell? ⟨b, o, none⟩ :=
 World.cell?_of_block (h.block b hl (fun e => hb (Option.some.inj e)))

theorem fK_step (I : Nat → Nat → List Int) (i : Nat) (nw : Int) (f : Int → Int → Option Int) (k : Nat) (a b : Int) : fK I i nw f (k + 1) a b = upd (fK I i nw f k) i k (lor ((f i k).getD 0) (img (I i k) nw)) a b := by
 unfold fK upd
 by_cases e : a = (i : Int) ∧ b = (k : Int)
 · obtain ⟨rfl, rfl⟩ := e
   rw [if_pos ⟨rfl, by omega, by omega⟩, if_pos ⟨rfl, rfl⟩, Int.toNat_natCast]
 · rw [if_neg e]
   dsimp only
   by_cases h : a = (i : Int) ∧ 0 ≤ b ∧ b < (k : Int)
   · rw [if_pos h, if_pos ⟨h.1, h.2.1, by omega⟩]
   · rw [if_neg h, if_neg (fun h' => h ⟨h'.1, h'.2.1, by have : b ≠ (k : Int) := fun e' => e ⟨h'.1, e'⟩; omega⟩)]

theorem gK_step (I : Nat → Nat → List Int) (ss : List Stm) (i : Nat) (nw : Int) (g : Int → Int → Option Int) (k : Nat) (hk : (ss.getD k ⟨0, 0, 0⟩).k = 8) (hn : ¬ img (I i k) nw = 0) (a b : Int) : gK I ss i nw g (k + 1) a b = upd (gK I ss i nw g k) i k (img (I i k) nw) a b := by
 unfold gK upd
 by_cases e : a = (i : Int) ∧ b = (k : Int)
 · obtain ⟨rfl, rfl⟩ := e
   rw [if_pos ⟨rfl, by omega, by omega, by simpa using hk, by simpa using hn⟩, if_pos ⟨rfl, rfl⟩, Int.toNat_natCast]
 · rw [if_neg e]
   dsimp only
   by_cases h : a = (i : Int) ∧ 0 ≤ b ∧ b < (k : Int) ∧ (ss.getD b.toNat ⟨0, 0, 0⟩).k = 8 ∧ ¬ img (I i b.toNat) nw = 0
   · rw [if_pos h, if_pos ⟨h.1, h.2.1, by omega, h.2.2.2⟩]
   · rw [if_neg h, if_neg (fun h' => h ⟨h'.1, h'.2.1, by have : b ≠ (k : Int) := fun e' => e ⟨h'.1, e'⟩; omega, h'.2.2.2⟩)]

theorem gK_skip (I : Nat → Nat → List Int) (ss : List Stm) (i : Nat) (nw : Int) (g : Int → Int → Option Int) (k : Nat) (hn : ¬ ((ss.getD k ⟨0, 0, 0⟩).k = 8 ∧ ¬ img (I i k) nw = 0)) (a b : Int) : gK I ss i nw g (k + 1) a b = gK I ss i nw g k a b := by
 unfold gK
 by_cases h : a = (i : Int) ∧ 0 ≤ b ∧ b < (k : Int) ∧ (ss.getD b.toNat ⟨0, 0, 0⟩).k = 8 ∧ ¬ img (I i b.toNat) nw = 0
 · rw [if_pos h, if_pos ⟨h.1, h.2.1, by omega, h.2.2.2⟩]
 · rw [if_neg h, if_neg (fun h' => h ⟨h'.1, h'.2.1, by
    have : b ≠ (k : Int) := fun e' => by subst e'; exact hn (by simpa using h'.2.2.2)
    omega, h'.2.2.2⟩)]

def BoxP (w : World) (base : Nat) (x : Value) : Prop := ∃ B, x = .pointer (some ⟨B, 0, none⟩) ∧ base ≤ B ∧ w.heap[B]? = some (.cells #[.int .i64 0, .int .i64 0] 56 (0, 0))
theorem BoxP.below {w w' : World} {base : Nat} {x : Value} (h : BoxP w base x) (hb : Below w.heap.size w w') : BoxP w' base x := by
 obtain ⟨B, h1, h2, h3⟩ := h
 exact ⟨B, h1, h2, (hb.block B (Array.getElem?_eq_some_iff.1 h3).1).trans h3⟩

theorem placeOf (i k : Int) (w : World) : Calls Try.prog 49 #[.int .i64 i, .int .i64 k] w fun e w' => e = .returned (plV i k) ∧ Below w.heap.size w w' := by
 go_enter Try.func49, Try.ntmps49
 go_wp2
 obtain ⟨d0, d1⟩ := blk2 (heap_alloc_new w (.cells #[.int .i64 i, .int .i64 k] 56))
 refine bodyPost_ret (v := plV i k) (by simp [results, Try.results49, go_sem, d0, d1, plV]) rfl ?_
 exact ⟨rfl, by go_grown⟩

theorem stmtAt (ps : List (List Stm)) (v : Value) (gs : List (List Int)) (E : List Int) (G A W : Nat) (w : World) (hfb : FB w G v gs E A W) (hv : ReadsP w v ps) (i k : Nat) (hi : i < ps.length) (hk : k < ps[i].length) (h4 : ps.length ≤ 4) (h12 : ps[i].length ≤ 12) :
 Calls Try.prog 114 #[.pointer (some ⟨G, 0, none⟩), plV i k] w fun e w' => e = .returned (.agg #[.int .i64 ps[i][k].k, .int .i64 ps[i][k].x, .int .i64 ps[i][k].y]) ∧ Below w.heap.size w w' := by
 have hc0 := hfb.c0
 obtain ⟨ao, cap, rfl, hcell⟩ := hv
 obtain ⟨g, off, u, rfl, hu, ⟨ao2, cap2, rfl, hc3⟩⟩ := hcell i ps[i] (by simp [hi])
 obtain ⟨g2, off2, rfl, k0, k1, k2⟩ := hc3 k ps[i][k] (by simp [hk])
 have hi' : (i : Int) < (ps.length : Int) := by omega
 have hk' : (k : Int) < (ps[i].length : Int) := by omega
 have z0 := World.block_lt_of_cell? w _ hc0
 have z1 := World.block_lt_of_cell? w _ hu
 have z2 := World.block_lt_of_cell? w _ k0
 unfold plV
 generalize ps[i][k].k = sk at *
 generalize ps[i][k].x = sx at *
 generalize ps[i][k].y = sy at *
 clear hcell hc3
 go_enter Try.func114, Try.ntmps114
 go_wp2_with fail
 go_region
 go_wp2
 generalize hW1 : w.alloc (.cells #[.int .i64 (i : Int), .int .i64 (k : Int)] 56) = W1
 have hs : W1.heap.size = w.heap.size + 1 := by rw [← hW1]; simp
 have b1 : Below w.heap.size w W1 := by rw [← hW1]; go_grown
 have H := heap_alloc_new W1 (.cells #[.int .i64 sk, .int .i64 sx, .int .i64 sy] 92)
 rw [hs] at H
 obtain ⟨d0, d1, d2⟩ := blk3 H
 refine bodyPost_ret (v := .agg #[.int .i64 sk, .int .i64 sx, .int .i64 sy]) (by simp [results, Try.results114, go_sem, d0, d1, d2]) rfl ?_
 exact ⟨rfl, Below.drew (b1.alloc b1.size _)⟩

theorem begin_ (ps : List (List Stm)) (I : Nat → Nat → List Int) (v : Value) (gs : List (List Int)) (w0 : World) (G A W nA nW : Nat) (E : List Int) (f g : Int → Int → Option Int) (i : Nat) (set : Int) (w : World)
 (hp : CanP ps) (h4 : ps.length ≤ 4) (hi : i < ps.length) (h12 : ps[i].length ≤ 12) (hI : GoodI ps I) (hgs : Rows7 48 gs) (hE : E.length = 4) (hrow : ∀ k, k < ps[i].length → gs.getD (12 * i + k) [] = I i k) (hsm : Small (E.getD i 0)) (hset : Small set)
 (hf : ∀ k, k < ps[i].length → Small ((f i k).getD 0)) (hnA : nA + 12 < 100000) (hnW : nW + 12 < 100000)
 (hv : ReadsP w0 v ps) (hap : Apart3 w0 G A W) (hS : FND v gs w0 G A W nA nW E f g w) :
 Calls Try.prog 112 #[.pointer (some ⟨G, 0, none⟩), .int .i64 (i : Int), .int .i64 set] w fun e w' => (∃ u, e = .returned u) ∧
  FND v gs w0 G A W (nA + 12) (nW + 12) (E.set i (lor (E.getD i 0) (andN set (E.getD i 0)))) (fK I i (andN set (E.getD i 0)) f ps[i].length) (gK I ps[i] i (andN set (E.getD i 0)) g ps[i].length) w' ∧ Kept3 G A W w w' := by
 have hi4 : i < 4 := by omega
 have hi4' : (i : Int) < 4 := by omega
 have ce := hS.fb.ent hgs hE hi4
 have fe := hS.fb.frozen (337 + i)
 have c0 := hS.fb.c0
 obtain ⟨nw, hnw⟩ : ∃ nw, andN set (E.getD i 0) = nw := ⟨_, rfl⟩
 obtain ⟨ei, hei⟩ : ∃ ei, E.getD i 0 = ei := ⟨_, rfl⟩
 have hns : Small nw := by rw [← hnw]; exact andN_small hset hsm
 rw [hei] at hnw ce hsm
 rw [hei, hnw]
 have hnw' : bits .andNot .i64 set ei = nw := hnw
 obtain ⟨lo, hlo⟩ : ∃ lo, lor ei nw = lo := ⟨_, rfl⟩
 have hlo' : bits .or .i64 ei nw = lo := hlo
 rw [hlo]
 obtain ⟨ao, cap, rfl, hcell⟩ := hv
 obtain ⟨gp, op, u, rfl, hu0, ao3, cap3, rfl, hc3⟩ := hcell i ps[i] (by simp [hi])
 have zgp := World.block_lt_of_cell? w0 _ hu0
 have hi' : (i : Int) < (ps.length : Int) := by omega
 clear hcell
 go_enter Try.func112, Try.ntmps112
 go_wp2_with fail
 go_region
 have hS1 : FND (.slice (some ⟨gp, op, none⟩) ps.length cap) gs w0 G A W nA nW (E.set i lo) f g (w.setCell ⟨G, 337 + i, none⟩ (.int .i64 lo)).drew :=
  (hS.turnG hap (grown_setCell7 w G (337 + i) (.int .i64 lo)) (hS.fb.setE hgs hE hi4 lo)).below (Below.drew (Below.refl _ _))
 have hK1 : Kept3 G A W w (w.setCell ⟨G, 337 + i, none⟩ (.int .i64 lo)).drew := (Kept3.of_grown (grown_setCell7 w G (337 + i) (.int .i64 lo)) (.inl rfl)).trans (Kept3.of_below (Below.drew (Below.refl _ _)))
 have hE1 : (E.set i lo).length = 4 := by simp [hE]
 generalize hE' : E.set i lo = E' at *
 generalize (w.setCell ⟨G, 337 + i, none⟩ (.int .i64 lo)).drew = w1 at *
 have c0 := hS1.fb.c0
 have hu := (hS1.bl.cell zgp).trans hu0
 clear hS ce fe zgp hu0 hsm hset
 go_wp2_with fail
 have S0 : Hid _ := hS1
 have K0 : Hid _ := hK1
 clear c0 hu hS1 hK1
 go_loopw [39] (fun kv wr => ∃ k : Nat, k ≤ ps[i].length ∧ kv = .int .i64 k ∧ FND (.slice (some ⟨gp, op, none⟩) ps.length cap) gs w0 G A W (nA + k) (nW + k) E' (fK I i nw f k) (gK I ps[i] i nw g k) wr ∧ Kept3 G A W w wr) (fun kv _ => ps[i].length - (intOf kv).toNat)
 case atStart =>
  refine ⟨0, Nat.zero_le _, rfl, ⟨S0.out.fb, S0.out.a.congr (fun a b _ _ => ?_), S0.out.w.congr (fun a b _ _ => ?_), S0.out.bl⟩, K0.out⟩
  · unfold fK; rw [if_neg (by omega)]
  · unfold gK; rw [if_neg (by omega)]
 case round =>
  obtain ⟨k, hk, rfl, S, K⟩ := hrel
  clear S0 K0
  have HS : Hid _ := S
  have HK : Hid _ := K
  by_cases hlt : k < ps[i].length
  · have hlt' : (k : Int) < (ps[i].length : Int) := by omega
    obtain ⟨gs3, off3, rfl, k0, k1, k2⟩ := hc3 k ps[i][k] (by simp [hlt])
    have zA0 := S.a.lt
    have M0 := S.bl
    have k0 := (M0.cell (World.block_lt_of_cell? w0 _ k0)).trans k0
    have k1 := (M0.cell (World.block_lt_of_cell? w0 _ k1)).trans k1
    have k2 := (M0.cell (World.block_lt_of_cell? w0 _ k2)).trans k2
    clear S K M0
    obtain ⟨sk, hsk⟩ : ∃ x, ps[i][k].k = x := ⟨_, rfl⟩
    obtain ⟨sx, hsx⟩ : ∃ x, ps[i][k].x = x := ⟨_, rfl⟩
    obtain ⟨sy, hsy⟩ : ∃ x, ps[i][k].y = x := ⟨_, rfl⟩
    rw [hsk] at k0
    rw [hsx] at k1
    rw [hsy] at k2
    have HSK : Hid _ := hsk
    clear hsk hsx hsy
    go_wp2_with fail
    have bW : Below wr.heap.size wr (wr.alloc (.cells #[.int .i64 sk, .int .i64 sx, .int .i64 sy] 92)) := by go_grown
    have HX : Hid ((wr.alloc (.cells #[.int .i64 sk, .int .i64 sx, .int .i64 sy] 92)).heap[wr.heap.size]? = some (.cells #[.int .i64 sk, .int .i64 sx, .int .i64 sy] 92 (0, 0))) := heap_alloc_new wr _
    have HS1 : Hid _ := HS.out.below bW
    have HK1 : Hid _ := HK.out.trans (Kept3.of_below bW)
    have hr12 : k < 12 := by omega
    have hk12' : (k : Int) < 12 := by omega
    have hrk := hrow k hlt
    have HRK : Hid (Smalls (I i k)) := hI i hi k hlt
    generalize hWW : wr.alloc (.cells #[.int .i64 sk, .int .i64 sx, .int .i64 sy] 92) = W1 at *
    have HR : Hid (W1.rangeAt G (1 + i * 84 + k * 7) (ints (I i k))) := hrk ▸ HS1.out.fb.row hgs hi4 hr12
    obtain ⟨rk, hrk'⟩ : ∃ rk, I i k = rk := ⟨_, rfl⟩
    rw [hrk'] at HR HRK
    have HF : Hid _ := hf
    clear k0 k1 k2 hrk HS HK hf hrow
    refine Code.wp_mono (Q := fun e a9 w9 => e = .normal ∧ ∃ B, a9 = { tmps := List.toArray (.pointer (some ⟨G, 0, none⟩) :: .int .i64 (i : Int) :: .int .i64 set :: undef :: undef :: undef :: .int .i64 nw :: .int .i64 (k : Int) :: .pointer (some ⟨wr.heap.size, 0, none⟩) :: .pointer (some ⟨B, 0, none⟩) :: .int .i64 (img rk nw) :: .int .i64 set :: .pointer (some ⟨G, 0, none⟩) :: .int .i64 (i : Int) :: .pointer (some ⟨G, 0, none⟩) :: .pointer (some ⟨G, 337, none⟩) :: .pointer (some ⟨G, 337 + i, none⟩) :: .int .i64 ei :: .int .i64 nw :: .pointer (some ⟨G, 0, none⟩) :: .int .i64 (i : Int) :: .pointer (some ⟨G, 0, none⟩) :: .pointer (some ⟨G, 337, none⟩) :: .pointer (some ⟨G, 337 + i, none⟩) :: .int .i64 ei :: .int .i64 nw :: .int .i64 lo :: .pointer (some ⟨G, 0, none⟩) :: .pointer (some ⟨G, 337, none⟩) :: .pointer (some ⟨G, 337 + i, none⟩) :: .pointer (some ⟨G, 0, none⟩) :: .pointer (some ⟨G, 0, none⟩) :: .pointer (some ⟨G, 0, none⟩) :: .slice (some ⟨gp, op, none⟩) ps.length cap :: .int .i64 (i : Int) :: .pointer (some ⟨gp, op + i, none⟩) :: .pointer (some ⟨gp, op + i, none⟩) :: .slice (some ⟨gs3, off3, none⟩) ps[i].length cap3 :: .int .i64 (ps[i].length : Int) :: .int .i64 (k : Int) :: .bool true :: .int .i64 (k : Int) :: .pointer (some ⟨gs3, off3 + k * 3, none⟩) :: .agg #[.int .i64 sk, .int .i64 sx, .int .i64 sy] :: .int .i64 (i : Int) :: .int .i64 (k : Int) :: plV i k :: .pointer (some ⟨G, 0, none⟩) :: .int .i64 (i : Int) :: .int .i64 (k : Int) :: .pointer (some ⟨G, 0, none⟩) :: .pointer (some ⟨G, 1, none⟩) :: .pointer (some ⟨G, 1 + i * 84, none⟩) :: .pointer (some ⟨G, 1 + i * 84 + k * 7, none⟩) :: relV rk :: .int .i64 nw :: .int .i64 (img rk nw) :: u57 :: u58 :: u59 :: u60 :: u61 :: u62 :: u63 :: u64 :: u65 :: u66 :: u67 :: u68 :: u69 :: u70 :: u71 :: u72 :: u73 :: u74 :: u75 :: u76 :: u77 :: u78 :: u79 :: u80 :: []), defers := [] } ∧ W1.heap.size ≤ B ∧ w9.heap[B]? = some (.cells #[.int .i64 (i : Int), .int .i64 (k : Int)] 56 (0, 0)) ∧ Below W1.heap.size W1 w9) ?hjoin ?hreg
    case hreg =>
     refine wp_region_held_drew (S := fun w' => Below W1.heap.size W1 w') (by kernel_rfl) (Below.drew (Below.refl _ _)) (fun hHeld => ?_)
     refine wpAnyH_take (i := 0) (oi := ?oip0) (v := .int .i64 (i : Int)) ?hip0 (by kernel_rfl) (by kernel_rfl) (by kernel_rfl) ?hqp0 ?hyp0 hHeld ?hrp0
     case hip0 =>
      simp only [gA, gB, gC]
      rfl
     case hqp0 => exact fun _ _ _ h => absurd h.1 (by simp)
     case hyp0 => exact Or.inl ⟨by kernel_rfl, fun w hSw => by go_simp⟩
     try simp only [Act.put, gD, gE, gF]
     refine wpAnyH_take (i := 1) (oi := ?oip1) (v := .int .i64 (k : Int)) ?hip1 (by kernel_rfl) (by kernel_rfl) (by kernel_rfl) ?hqp1 ?hyp1 hHeld ?hrp1
     case hip1 =>
      simp only [gA, gB, gC]
      rfl
     case hqp1 => exact fun _ _ _ h => absurd h.1 (by simp)
     case hyp1 => exact Or.inl ⟨by kernel_rfl, fun w hSw => by go_simp⟩
     try simp only [Act.put, gD, gE, gF]
     refine wpAnyH_take (i := 3) (oi := ?oip3) (v := .pointer (some ⟨G, 0, none⟩)) ?hip3 (by kernel_rfl) (by kernel_rfl) (by kernel_rfl) ?hqp3 ?hyp3 hHeld ?hrp3
     case hip3 =>
      simp only [gA, gB, gC]
      rfl
     case hqp3 => exact fun _ _ _ h => absurd h.1 (by simp)
     case hyp3 => exact Or.inl ⟨by kernel_rfl, fun w hSw => by go_simp⟩
     try simp only [Act.put, gD, gE, gF]
     refine wpAnyH_take (i := 4) (oi := ?oip4) (v := .int .i64 (i : Int)) ?hip4 (by kernel_rfl) (by kernel_rfl) (by kernel_rfl) ?hqp4 ?hyp4 hHeld ?hrp4
     case hip4 =>
      simp only [gA, gB, gC]
      rfl
     case hqp4 => exact fun _ _ _ h => absurd h.1 (by simp)
     case hyp4 => exact Or.inl ⟨by kernel_rfl, fun w hSw => by go_simp⟩
     try simp only [Act.put, gD, gE, gF]
     refine wpAnyH_take (i := 5) (oi := ?oip5) (v := .int .i64 (k : Int)) ?hip5 (by kernel_rfl) (by kernel_rfl) (by kernel_rfl) ?hqp5 ?hyp5 hHeld ?hrp5
     case hip5 =>
      simp only [gA, gB, gC]
      rfl
     case hqp5 => exact fun _ _ _ h => absurd h.1 (by simp)
     case hyp5 => exact Or.inl ⟨by kernel_rfl, fun w hSw => by go_simp⟩
     try simp only [Act.put, gD, gE, gF]
     refine wpAnyH_take (i := 6) (oi := ?oip6) (v := .pointer (some ⟨G, 0, none⟩)) ?hip6 (by kernel_rfl) (by kernel_rfl) (by kernel_rfl) ?hqp6 ?hyp6 hHeld ?hrp6
     case hip6 =>
      simp only [gA, gB, gC]
      rfl
     case hqp6 => exact fun _ _ _ h => absurd h.1 (by simp)
     case hyp6 => exact Or.inl ⟨by kernel_rfl, fun w hSw => by go_simp⟩
     try simp only [Act.put, gD, gE, gF]
     refine wpAnyH_take (i := 7) (oi := ?oip7) (v := .pointer (some ⟨G, 1, none⟩)) ?hip7 (by kernel_rfl) (by kernel_rfl) (by kernel_rfl) ?hqp7 ?hyp7 hHeld ?hrp7
     case hip7 =>
      simp only [gA, gB, gC]
      rfl
     case hqp7 => exact fun _ _ _ h => absurd h.1 (by simp)
     case hyp7 => exact Or.inl ⟨by kernel_rfl, fun w hSw => by go_simp⟩
     try simp only [Act.put, gD, gE, gF]
     refine wpAnyH_take (i := 8) (oi := ?oip8) (v := .pointer (some ⟨G, 1 + i * 84, none⟩)) ?hip8 (by kernel_rfl) (by kernel_rfl) (by kernel_rfl) ?hqp8 ?hyp8 hHeld ?hrp8
     case hip8 =>
      simp only [gA, gB, gC]
      rfl
     case hqp8 => exact fun _ _ _ h => absurd h.1 (by simp)
     case hyp8 => exact Or.inl ⟨by kernel_rfl, fun w hSw => by go_simp⟩
     try simp only [Act.put, gD, gE, gF]
     refine wpAnyH_take (i := 9) (oi := ?oip9) (v := .pointer (some ⟨G, 1 + i * 84 + k * 7, none⟩)) ?hip9 (by kernel_rfl) (by kernel_rfl) (by kernel_rfl) ?hqp9 ?hyp9 hHeld ?hrp9
     case hip9 =>
      simp only [gA, gB, gC]
      rfl
     case hqp9 => exact fun _ _ _ h => absurd h.1 (by simp)
     case hyp9 => exact Or.inl ⟨by kernel_rfl, fun w hSw => by go_simp⟩
     try simp only [Act.put, gD, gE, gF]
     refine wpAnyH_take (i := 10) (oi := ?oip10) (v := relV rk) ?hip10 (by kernel_rfl) (by kernel_rfl) (by kernel_rfl) ?hqp10 ?hyp10 hHeld ?hrp10
     case hip10 =>
      simp only [gA, gB, gC]
      rfl
     case hqp10 => exact fun _ _ _ h => absurd h.1 (by simp)
     case hyp10 => exact yieldsIf_load_mid (by kernel_rfl) 64 (.tmp 53) rfl G (1 + i * 84 + k * 7) rfl (ints rk) _ (fun w hSw => range_below HR.out hSw) relUnd rfl (by rw [relInfo]; simp [ints, HRK.out.1])
     try simp only [Act.put, gD, gE, gF]
     refine wpAnyH_take (i := 11) (oi := ?oip11) (v := .int .i64 nw) ?hip11 (by kernel_rfl) (by kernel_rfl) (by kernel_rfl) ?hqp11 ?hyp11 hHeld ?hrp11
     case hip11 =>
      simp only [gA, gB, gC]
      rfl
     case hqp11 => exact fun _ _ _ h => absurd h.1 (by simp)
     case hyp11 => exact Or.inl ⟨by kernel_rfl, fun w hSw => by go_simp⟩
     try simp only [Act.put, gD, gE, gF]
     refine wpAnyH_ready (rs := [2, 13]) (by kernel_rfl) (by simp) ?_
     refine (AllReadyH.cons (o := ?oop2) ?hop2 (fun K hK => ?hkp2) (AllReadyH.cons (o := ?oop13) ?hop13 (fun K hK => ?hkp13) AllReadyH.nil))
     case hop2 =>
      simp only [gA, gB, gC]
      rfl
     case hop13 =>
      simp only [gA, gB, gC]
      rfl
     case hkp2 =>
      go_simp
      go_at_call 49
      refine (placeOf i k _).mono ?_
      rintro e w2 ⟨rfl, b2⟩
      have HB2 : Hid _ := hHeld.trans (b2.mono hHeld.size)
      clear b2
      try go_wp2_with fail
      refine hK.out _ _ HB2.out (fun hHeld => ?_)
      clear hK K
      try simp only [Act.put, gD, gE, gF]
      refine wpAnyH_ready (rs := [12, 13]) (by kernel_rfl) (by simp) ?_
      refine (AllReadyH.cons (o := ?oopa12) ?hopa12 (fun K hK => ?hkpa12) (AllReadyH.cons (o := ?oopa13) ?hopa13 (fun K hK => ?hkpa13) AllReadyH.nil))
      case hopa12 =>
       simp only [gA, gB, gC]
       rfl
      case hopa13 =>
       simp only [gA, gB, gC]
       rfl
      case hkpa12 =>
       go_simp
       go_at_call 115
       refine (relImage rk nw _ HRK.out hns).mono ?_
       rintro e w3 ⟨rfl, b3⟩
       have HB3 : Hid _ := hHeld.trans (b3.mono hHeld.size)
       clear b3
       try go_wp2_with fail
       refine hK.out _ _ HB3.out (fun hHeld => ?_)
       clear hK K
       try simp only [Act.put, gD, gE, gF]
       refine wpAnyH_ready (rs := [13]) (by kernel_rfl) (by simp) ?_
       refine (AllReadyH.cons (o := ?oopaa13) ?hopaa13 (fun K hK => ?hkpaa13) AllReadyH.nil)
       case hopaa13 =>
        simp only [gA, gB, gC]
        rfl
       case hkpaa13 =>
        go_simp
        try go_wp2_with fail
        have HZ : Hid (W1.heap.size ≤ w3.heap.size) := hHeld.size
        have HX2 : Hid ((w3.alloc (.cells #[.int .i64 0, .int .i64 0] 56)).heap[w3.heap.size]? = some (.cells #[.int .i64 0, .int .i64 0] 56 (0, 0))) := heap_alloc_new w3 _
        have HA4 : Hid (Below W1.heap.size W1 (w3.alloc (.cells #[.int .i64 0, .int .i64 0] 56))) := hHeld.alloc hHeld.size _
        generalize w3.alloc (.cells #[.int .i64 0, .int .i64 0] 56) = w4 at *
        refine hK.out _ _ HA4.out (fun hHeld => ?_)
        clear hK K
        try simp only [Act.put, gD, gE, gF]
        refine wpAnyH_ready (rs := [14]) (by kernel_rfl) (by simp) ?_
        refine (AllReadyH.cons (o := ?oopaa14) ?hopaa14 (fun K hK => ?hkpaa14) AllReadyH.nil)
        case hopaa14 =>
         simp only [gA, gB, gC]
         rfl
        case hkpaa14 =>
         obtain ⟨d0, d1⟩ := blk2 HX2.out
         obtain ⟨f0, f1⟩ := blk2f HX2.out
         unfold plV
         go_simp
         try go_wp2_with fail
         refine hK.out _ _ (Below.setCell (Below.setCell hHeld (show _ ≤ (⟨w3.heap.size, 0, none⟩ : Addr).block from HZ.out) _) (show _ ≤ (⟨w3.heap.size, 1, none⟩ : Addr).block from HZ.out) _) (fun hHeld => ?_)
         clear hK K
         try simp only [Act.put, gD, gE, gF]
         refine wpAnyH_ready (rs := [15]) (by kernel_rfl) (by simp) ?_
         refine (AllReadyH.cons (o := ?oopaa15) ?hopaa15 (fun K hK => ?hkpaa15) AllReadyH.nil)
         case hopaa15 =>
          simp only [gA, gB, gC]
          rfl
         case hkpaa15 =>
          go_simp
          try go_wp2_with fail
          refine hK.out _ _ hHeld (fun hHeld => ?_)
          clear hK K
          try simp only [Act.put, gD, gE, gF]
          refine wpAnyH_done (by kernel_rfl) ?_ _
          exact ⟨rfl, w3.heap.size, rfl, HZ.out, blk2set HX2.out _ _, hHeld⟩
      case hkpa13 =>
       go_simp
       try go_wp2_with fail
       have HZ : Hid (W1.heap.size ≤ w2.heap.size) := hHeld.size
       have HX2 : Hid ((w2.alloc (.cells #[.int .i64 0, .int .i64 0] 56)).heap[w2.heap.size]? = some (.cells #[.int .i64 0, .int .i64 0] 56 (0, 0))) := heap_alloc_new w2 _
       have HA4 : Hid (Below W1.heap.size W1 (w2.alloc (.cells #[.int .i64 0, .int .i64 0] 56))) := hHeld.alloc hHeld.size _
       generalize w2.alloc (.cells #[.int .i64 0, .int .i64 0] 56) = w4 at *
       refine hK.out _ _ HA4.out (fun hHeld => ?_)
       clear hK K
       try simp only [Act.put, gD, gE, gF]
       refine wpAnyH_ready (rs := [12]) (by kernel_rfl) (by simp) ?_
       refine (AllReadyH.cons (o := ?oopab12) ?hopab12 (fun K hK => ?hkpab12) AllReadyH.nil)
       case hopab12 =>
        simp only [gA, gB, gC]
        rfl
       case hkpab12 =>
        go_simp
        go_at_call 115
        refine (relImage rk nw _ HRK.out hns).mono ?_
        rintro e w3 ⟨rfl, b3⟩
        have HB3 : Hid _ := hHeld.trans (b3.mono hHeld.size)
        have HX2 : Hid _ := (b3.block _ (Array.getElem?_eq_some_iff.1 HX2.out).1).trans HX2.out
        clear b3
        try go_wp2_with fail
        refine hK.out _ _ HB3.out (fun hHeld => ?_)
        clear hK K
        try simp only [Act.put, gD, gE, gF]
        refine wpAnyH_ready (rs := [14]) (by kernel_rfl) (by simp) ?_
        refine (AllReadyH.cons (o := ?oopab14) ?hopab14 (fun K hK => ?hkpab14) AllReadyH.nil)
        case hopab14 =>
         simp only [gA, gB, gC]
         rfl
        case hkpab14 =>
         obtain ⟨d0, d1⟩ := blk2 HX2.out
         obtain ⟨f0, f1⟩ := blk2f HX2.out
         unfold plV
         go_simp
         try go_wp2_with fail
         refine hK.out _ _ (Below.setCell (Below.setCell hHeld (show _ ≤ (⟨w2.heap.size, 0, none⟩ : Addr).block from HZ.out) _) (show _ ≤ (⟨w2.heap.size, 1, none⟩ : Addr).block from HZ.out) _) (fun hHeld => ?_)
         clear hK K
         try simp only [Act.put, gD, gE, gF]
         refine wpAnyH_ready (rs := [15]) (by kernel_rfl) (by simp) ?_
         refine (AllReadyH.cons (o := ?oopab15) ?hopab15 (fun K hK => ?hkpab15) AllReadyH.nil)
         case hopab15 =>
          simp only [gA, gB, gC]
          rfl
         case hkpab15 =>
          go_simp
          try go_wp2_with fail
          refine hK.out _ _ hHeld (fun hHeld => ?_)
          clear hK K
          try simp only [Act.put, gD, gE, gF]
          refine wpAnyH_done (by kernel_rfl) ?_ _
          exact ⟨rfl, w2.heap.size, rfl, HZ.out, blk2set HX2.out _ _, hHeld⟩
     case hkp13 =>
      go_simp
      try go_wp2_with fail
      have HZ : Hid (W1.heap.size ≤ W1.heap.size) := Nat.le_refl _
      have HX2 : Hid (((W1.alloc (.cells #[.int .i64 0, .int .i64 0] 56)).drew).heap[W1.heap.size]? = some (.cells #[.int .i64 0, .int .i64 0] 56 (0, 0))) := heap_alloc_new W1 _
      have HA4 : Hid (Below W1.heap.size W1 ((W1.alloc (.cells #[.int .i64 0, .int .i64 0] 56)).drew)) := Below.drew ((Below.refl _ _).alloc (Nat.le_refl _) _)
      generalize (W1.alloc (.cells #[.int .i64 0, .int .i64 0] 56)).drew = w4 at *
      refine hK.out _ _ HA4.out (fun hHeld => ?_)
      clear hK K
      try simp only [Act.put, gD, gE, gF]
      refine wpAnyH_ready (rs := [2]) (by kernel_rfl) (by simp) ?_
      refine (AllReadyH.cons (o := ?oopb2) ?hopb2 (fun K hK => ?hkpb2) AllReadyH.nil)
      case hopb2 =>
       simp only [gA, gB, gC]
       rfl
      case hkpb2 =>
       go_simp
       go_at_call 49
       refine (placeOf i k _).mono ?_
       rintro e w2 ⟨rfl, b2⟩
       have HX2 : Hid _ := (b2.block _ (Array.getElem?_eq_some_iff.1 HX2.out).1).trans HX2.out
       have HB2 : Hid _ := hHeld.trans (b2.mono hHeld.size)
       clear b2
       try go_wp2_with fail
       refine hK.out _ _ HB2.out (fun hHeld => ?_)
       clear hK K
       try simp only [Act.put, gD, gE, gF]
       refine wpAnyH_ready (rs := [12]) (by kernel_rfl) (by simp) ?_
       refine (AllReadyH.cons (o := ?oopb12) ?hopb12 (fun K hK => ?hkpb12) AllReadyH.nil)
       case hopb12 =>
        simp only [gA, gB, gC]
        rfl
       case hkpb12 =>
        go_simp
        go_at_call 115
        refine (relImage rk nw _ HRK.out hns).mono ?_
        rintro e w3 ⟨rfl, b3⟩
        have HB3 : Hid _ := hHeld.trans (b3.mono hHeld.size)
        have HX2 : Hid _ := (b3.block _ (Array.getElem?_eq_some_iff.1 HX2.out).1).trans HX2.out
        clear b3
        try go_wp2_with fail
        refine hK.out _ _ HB3.out (fun hHeld => ?_)
        clear hK K
        try simp only [Act.put, gD, gE, gF]
        refine wpAnyH_ready (rs := [14]) (by kernel_rfl) (by simp) ?_
        refine (AllReadyH.cons (o := ?oopb14) ?hopb14 (fun K hK => ?hkpb14) AllReadyH.nil)
        case hopb14 =>
         simp only [gA, gB, gC]
         rfl
        case hkpb14 =>
         obtain ⟨d0, d1⟩ := blk2 HX2.out
         obtain ⟨f0, f1⟩ := blk2f HX2.out
         unfold plV
         go_simp
         try go_wp2_with fail
         refine hK.out _ _ (Below.setCell (Below.setCell hHeld (show _ ≤ (⟨W1.heap.size, 0, none⟩ : Addr).block from HZ.out) _) (show _ ≤ (⟨W1.heap.size, 1, none⟩ : Addr).block from HZ.out) _) (fun hHeld => ?_)
         clear hK K
         try simp only [Act.put, gD, gE, gF]
         refine wpAnyH_ready (rs := [15]) (by kernel_rfl) (by simp) ?_
         refine (AllReadyH.cons (o := ?oopb15) ?hopb15 (fun K hK => ?hkpb15) AllReadyH.nil)
         case hopb15 =>
          simp only [gA, gB, gC]
          rfl
         case hkpb15 =>
          go_simp
          try go_wp2_with fail
          refine hK.out _ _ hHeld (fun hHeld => ?_)
          clear hK K
          try simp only [Act.put, gD, gE, gF]
          refine wpAnyH_done (by kernel_rfl) ?_ _
          exact ⟨rfl, W1.heap.size, rfl, HZ.out, blk2set HX2.out _ _, hHeld⟩
    case hjoin =>
     intro e a9 w9 hq9
     obtain ⟨rfl, B, rfl, hB, hBX, hB9⟩ := hq9
     have hik : Wf i := WalkArith.wf_i64 (by omega)
     have hkk : Wf k := WalkArith.wf_i64 (by omega)
     have HS9 : Hid _ := (HS1.out.below hB9).below (Below.drew (Below.refl _ _))
     have HK9 : Hid _ := HK1.out.trans (Kept3.of_below (Below.drew hB9))
     have hBW : B < w9.heap.size := (Array.getElem?_eq_some_iff.1 hBX).1
     have zG9 := HS1.out.fb.lt
     have zA9 := HS1.out.a.lt
     have zW9 := HS1.out.w.lt
     obtain ⟨v0, st, w2, hEr, hEg, hEm, hEs⟩ := HS9.out.a.entry (by omega) hik hkk
     obtain ⟨old, hold⟩ : ∃ old, (f i k).getD 0 = old := ⟨_, rfl⟩
     have hfk : fK I i nw f k i k = f i k := by unfold fK; rw [if_neg (by omega)]
     have hL0 := HS9.out.a.lookup hik hkk
     have hL1 := hEm.lookup hik hkk
     have hu1 : upd (fK I i nw f k) i k ((fK I i nw f k i k).getD 0) i k = some ((fK I i nw f k i k).getD 0) := by unfold upd; rw [if_pos ⟨rfl, rfl⟩]
     rw [hu1, Option.getD_some] at hL1
     rw [hfk, hold] at hL0 hL1
     have hoS : Small old := by rw [← hold]; exact HF.out k hlt
     have hmS : Small (img rk nw) := img_small HRK.out nw
     obtain ⟨nx, hnx⟩ : ∃ nx, bits .or .i64 old (img rk nw) = nx := ⟨_, rfl⟩
     have hnS : Small nx := by rw [← hnx]; exact lor_small hoS hmS
     obtain ⟨w3, hES, hM3, hG3⟩ := hEs w2 nx (WalkArith.wf_i64 (by have := hnS.1; have := hnS.2; omega)) rfl
     have hBA : B ≠ A := by omega
     have hBG : B ≠ G := by omega
     have hBV : B ≠ W := by omega
     obtain ⟨b0, b1⟩ := blk2 hBX
     have HS0 : Hid (w9.drew.cell? ⟨G, 341, none⟩ = some (.map (some A)) ∧ w9.drew.cell? ⟨B, 0, none⟩ = some (.int .i64 (i : Int)) ∧ w9.drew.cell? ⟨B, 1, none⟩ = some (.int .i64 (k : Int))) := ⟨HS9.out.fb.mA hgs hE1, b0, b1⟩
     have HS2 : Hid (w2.cell? ⟨G, 341, none⟩ = some (.map (some A)) ∧ w2.cell? ⟨B, 0, none⟩ = some (.int .i64 (i : Int)) ∧ w2.cell? ⟨B, 1, none⟩ = some (.int .i64 (k : Int))) := ⟨(cell_grown hEg hap.ga HS9.out.fb.lt _).trans HS0.out.1, (cell_grown hEg hBA hBW _).trans b0, (cell_grown hEg hBA hBW _).trans b1⟩
     have HS3 : Hid (w3.cell? ⟨G, 341, none⟩ = some (.map (some A)) ∧ w3.cell? ⟨B, 0, none⟩ = some (.int .i64 (i : Int)) ∧ w3.cell? ⟨B, 1, none⟩ = some (.int .i64 (k : Int))) := ⟨(cell_grown hG3 hap.ga (Nat.lt_of_lt_of_le HS9.out.fb.lt hEg.size) _).trans HS2.out.1, (cell_grown hG3 hBA (Nat.lt_of_lt_of_le hBW hEg.size) _).trans HS2.out.2.1, (cell_grown hG3 hBA (Nat.lt_of_lt_of_le hBW hEg.size) _).trans HS2.out.2.2⟩
     unfold plV at hL0 hL1 hEr
     unfold goInt at hEr hES
     clear hEs
     go_wp2_with fail
     refine Code.wp_mono (Q := fun e a9 w8 => e = .normal ∧ a9 = { tmps := List.toArray (.pointer (some ⟨G, 0, none⟩) :: .int .i64 (i : Int) :: .int .i64 set :: undef :: undef :: undef :: .int .i64 nw :: .int .i64 (k : Int) :: .pointer (some ⟨wr.heap.size, 0, none⟩) :: .pointer (some ⟨B, 0, none⟩) :: .int .i64 (img rk nw) :: .int .i64 set :: .pointer (some ⟨G, 0, none⟩) :: .int .i64 (i : Int) :: .pointer (some ⟨G, 0, none⟩) :: .pointer (some ⟨G, 337, none⟩) :: .pointer (some ⟨G, 337 + i, none⟩) :: .int .i64 ei :: .int .i64 nw :: .pointer (some ⟨G, 0, none⟩) :: .int .i64 (i : Int) :: .pointer (some ⟨G, 0, none⟩) :: .pointer (some ⟨G, 337, none⟩) :: .pointer (some ⟨G, 337 + i, none⟩) :: .int .i64 ei :: .int .i64 nw :: .int .i64 lo :: .pointer (some ⟨G, 0, none⟩) :: .pointer (some ⟨G, 337, none⟩) :: .pointer (some ⟨G, 337 + i, none⟩) :: .pointer (some ⟨G, 0, none⟩) :: .pointer (some ⟨G, 0, none⟩) :: .pointer (some ⟨G, 0, none⟩) :: .slice (some ⟨gp, op, none⟩) ps.length cap :: .int .i64 (i : Int) :: .pointer (some ⟨gp, op + i, none⟩) :: .pointer (some ⟨gp, op + i, none⟩) :: .slice (some ⟨gs3, off3, none⟩) ps[i].length cap3 :: .int .i64 (ps[i].length : Int) :: .int .i64 (k : Int) :: .bool true :: .int .i64 (k : Int) :: .pointer (some ⟨gs3, off3 + k * 3, none⟩) :: .agg #[.int .i64 sk, .int .i64 sx, .int .i64 sy] :: .int .i64 (i : Int) :: .int .i64 (k : Int) :: plV i k :: .pointer (some ⟨G, 0, none⟩) :: .int .i64 (i : Int) :: .int .i64 (k : Int) :: .pointer (some ⟨G, 0, none⟩) :: .pointer (some ⟨G, 1, none⟩) :: .pointer (some ⟨G, 1 + i * 84, none⟩) :: .pointer (some ⟨G, 1 + i * 84 + k * 7, none⟩) :: relV rk :: .int .i64 nw :: .int .i64 (img rk nw) :: .pointer (some ⟨G, 0, none⟩) :: .pointer (some ⟨G, 0, none⟩) :: .pointer (some ⟨G, 341, none⟩) :: .map (some A) :: .agg #[.int .i64 (i : Int), .int .i64 (k : Int)] :: .int .i64 old :: .int .i64 (img rk nw) :: .int .i64 nx :: .tuple #[v0, .int .i64 (st : Int)] :: .int .i64 (st : Int) :: u67 :: u68 :: u69 :: u70 :: u71 :: u72 :: u73 :: u74 :: u75 :: u76 :: u77 :: u78 :: u79 :: u80 :: []), defers := [] } ∧ w8 = w3) ?hjoin6 ?hreg6
     case hreg6 =>
      refine wp_region_held_drew (S := fun w' => w'.cell? ⟨G, 341, none⟩ = some (.map (some A)) ∧ w'.cell? ⟨B, 0, none⟩ = some (.int .i64 (i : Int)) ∧ w'.cell? ⟨B, 1, none⟩ = some (.int .i64 (k : Int))) (by kernel_rfl) HS0.out (fun hHeld => ?_)
      refine wpAnyH_take (i := 0) (oi := ?oiq0) (v := .pointer (some ⟨G, 0, none⟩)) ?hiq0 (by kernel_rfl) (by kernel_rfl) (by kernel_rfl) ?hqq0 ?hyq0 hHeld ?hrq0
      case hiq0 =>
       simp only [gA, gB, gC]
       rfl
      case hqq0 => exact fun _ _ _ h => absurd h.1 (by simp)
      case hyq0 => exact Or.inl ⟨by kernel_rfl, fun w hSw => by go_simp⟩
      try simp only [Act.put, gD, gE, gF]
      refine wpAnyH_take (i := 1) (oi := ?oiq1) (v := .pointer (some ⟨G, 0, none⟩)) ?hiq1 (by kernel_rfl) (by kernel_rfl) (by kernel_rfl) ?hqq1 ?hyq1 hHeld ?hrq1
      case hiq1 =>
       simp only [gA, gB, gC]
       rfl
      case hqq1 => exact fun _ _ _ h => absurd h.1 (by simp)
      case hyq1 => exact Or.inl ⟨by kernel_rfl, fun w hSw => by go_simp⟩
      try simp only [Act.put, gD, gE, gF]
      refine wpAnyH_take (i := 2) (oi := ?oiq2) (v := .pointer (some ⟨G, 341, none⟩)) ?hiq2 (by kernel_rfl) (by kernel_rfl) (by kernel_rfl) ?hqq2 ?hyq2 hHeld ?hrq2
      case hiq2 =>
       simp only [gA, gB, gC]
       rfl
      case hqq2 => exact fun _ _ _ h => absurd h.1 (by simp)
      case hyq2 => exact Or.inl ⟨by kernel_rfl, fun w hSw => by go_simp⟩
      try simp only [Act.put, gD, gE, gF]
      refine wpAnyH_take (i := 3) (oi := ?oiq3) (v := .map (some A)) ?hiq3 (by kernel_rfl) (by kernel_rfl) (by kernel_rfl) ?hqq3 ?hyq3 hHeld ?hrq3
      case hiq3 =>
       simp only [gA, gB, gC]
       rfl
      case hqq3 => exact fun _ _ _ h => absurd h.1 (by simp)
      case hyq3 => exact Or.inl ⟨by kernel_rfl, fun w hSw => by obtain ⟨s1, s2, s3⟩ := hSw; go_simp⟩
      try simp only [Act.put, gD, gE, gF]
      refine wpAnyH_take (i := 4) (oi := ?oiq4) (v := .agg #[.int .i64 (i : Int), .int .i64 (k : Int)]) ?hiq4 (by kernel_rfl) (by kernel_rfl) (by kernel_rfl) ?hqq4 ?hyq4 hHeld ?hrq4
      case hiq4 =>
       simp only [gA, gB, gC]
       rfl
      case hqq4 => exact fun _ _ _ h => absurd h.1 (by simp)
      case hyq4 => exact Or.inl ⟨by kernel_rfl, fun w hSw => by obtain ⟨s1, s2, s3⟩ := hSw; go_simp⟩
      try simp only [Act.put, gD, gE, gF]
      refine wpAnyH_take (i := 6) (oi := ?oiq6) (v := .int .i64 (img rk nw)) ?hiq6 (by kernel_rfl) (by kernel_rfl) (by kernel_rfl) ?hqq6 ?hyq6 hHeld ?hrq6
      case hiq6 =>
       simp only [gA, gB, gC]
       rfl
      case hqq6 => exact fun _ _ _ h => absurd h.1 (by simp)
      case hyq6 => exact Or.inl ⟨by kernel_rfl, fun w hSw => by go_simp⟩
      try simp only [Act.put, gD, gE, gF]
      refine wpAnyH_ready (rs := [5, 8]) (by kernel_rfl) (by simp) ?_
      refine (AllReadyH.cons (o := ?ooq5) ?hoq5 (fun K hK => ?hkq5) (AllReadyH.cons (o := ?ooq8) ?hoq8 (fun K hK => ?hkq8) AllReadyH.nil))
      case hoq5 =>
       simp only [gA, gB, gC]
       rfl
      case hoq8 =>
       simp only [gA, gB, gC]
       rfl
      case hkq5 =>
       go_simp
       try go_wp2_with fail
       refine hK.out _ _ hHeld (fun hHeld => ?_)
       clear hK K
       try simp only [Act.put, gD, gE, gF]
       refine wpAnyH_take (i := 7) (oi := ?oiqa7) (v := .int .i64 nx) ?hiqa7 (by kernel_rfl) (by kernel_rfl) (by kernel_rfl) ?hqqa7 ?hyqa7 hHeld ?hrqa7
       case hiqa7 =>
        simp only [gA, gB, gC]
        rfl
       case hqqa7 => exact fun _ _ _ h => absurd h.1 (by simp)
       case hyqa7 => exact Or.inl ⟨by kernel_rfl, fun w hSw => by go_simp⟩
       try simp only [Act.put, gD, gE, gF]
       refine wpAnyH_ready (rs := [8]) (by kernel_rfl) (by simp) ?_
       refine (AllReadyH.cons (o := ?ooqa8) ?hoqa8 (fun K hK => ?hkqa8) AllReadyH.nil)
       case hoqa8 =>
        simp only [gA, gB, gC]
        rfl
       case hkqa8 =>
        go_simp
        try go_wp2_with fail
        refine hK.out _ _ HS2.out (fun hHeld => ?_)
        clear hK K
        try simp only [Act.put, gD, gE, gF]
        refine wpAnyH_take (i := 9) (oi := ?oiqa9) (v := .int .i64 (st : Int)) ?hiqa9 (by kernel_rfl) (by kernel_rfl) (by kernel_rfl) ?hqqa9 ?hyqa9 hHeld ?hrqa9
        case hiqa9 =>
         simp only [gA, gB, gC]
         rfl
        case hqqa9 => exact fun _ _ _ h => absurd h.1 (by simp)
        case hyqa9 => exact Or.inl ⟨by kernel_rfl, fun w hSw => by go_simp⟩
        try simp only [Act.put, gD, gE, gF]
        refine wpAnyH_ready (rs := [10]) (by kernel_rfl) (by simp) ?_
        refine (AllReadyH.cons (o := ?ooqa10) ?hoqa10 (fun K hK => ?hkqa10) AllReadyH.nil)
        case hoqa10 =>
         simp only [gA, gB, gC]
         rfl
        case hkqa10 =>
         have HES : Hid _ := hES
         go_simp
         try go_wp2_with fail
         refine hK.out _ _ HS3.out (fun hHeld => ?_)
         clear hK K
         try simp only [Act.put, gD, gE, gF]
         refine wpAnyH_done (by kernel_rfl) ?_ _
         exact ⟨rfl, rfl, rfl⟩
      case hkq8 =>
       go_simp
       try go_wp2_with fail
       refine hK.out _ _ HS2.out (fun hHeld => ?_)
       clear hK K
       try simp only [Act.put, gD, gE, gF]
       refine wpAnyH_take (i := 9) (oi := ?oiqb9) (v := .int .i64 (st : Int)) ?hiqb9 (by kernel_rfl) (by kernel_rfl) (by kernel_rfl) ?hqqb9 ?hyqb9 hHeld ?hrqb9
       case hiqb9 =>
        simp only [gA, gB, gC]
        rfl
       case hqqb9 => exact fun _ _ _ h => absurd h.1 (by simp)
       case hyqb9 => exact Or.inl ⟨by kernel_rfl, fun w hSw => by go_simp⟩
       try simp only [Act.put, gD, gE, gF]
       refine wpAnyH_ready (rs := [5]) (by kernel_rfl) (by simp) ?_
       refine (AllReadyH.cons (o := ?ooqb5) ?hoqb5 (fun K hK => ?hkqb5) AllReadyH.nil)
       case hoqb5 =>
        simp only [gA, gB, gC]
        rfl
       case hkqb5 =>
        go_simp
        try go_wp2_with fail
        refine hK.out _ _ hHeld (fun hHeld => ?_)
        clear hK K
        try simp only [Act.put, gD, gE, gF]
        refine wpAnyH_take (i := 7) (oi := ?oiqb7) (v := .int .i64 nx) ?hiqb7 (by kernel_rfl) (by kernel_rfl) (by kernel_rfl) ?hqqb7 ?hyqb7 hHeld ?hrqb7
        case hiqb7 =>
         simp only [gA, gB, gC]
         rfl
        case hqqb7 => exact fun _ _ _ h => absurd h.1 (by simp)
        case hyqb7 => exact Or.inl ⟨by kernel_rfl, fun w hSw => by go_simp⟩
        try simp only [Act.put, gD, gE, gF]
        refine wpAnyH_ready (rs := [10]) (by kernel_rfl) (by simp) ?_
        refine (AllReadyH.cons (o := ?ooqb10) ?hoqb10 (fun K hK => ?hkqb10) AllReadyH.nil)
        case hoqb10 =>
         simp only [gA, gB, gC]
         rfl
        case hkqb10 =>
         have HES : Hid _ := hES
         go_simp
         try go_wp2_with fail
         refine hK.out _ _ HS3.out (fun hHeld => ?_)
         clear hK K
         try simp only [Act.put, gD, gE, gF]
         refine wpAnyH_done (by kernel_rfl) ?_ _
         exact ⟨rfl, rfl, rfl⟩
     case hjoin6 =>
      intro e a9 w8 hq9
      obtain ⟨rfl, rfl, rfl⟩ := hq9
      have hG23 : w9.drew.grownBy w8 (some A) := grown_trans hEg hG3
      have HS3' : Hid (FND (.slice (some ⟨gp, op, none⟩) ps.length cap) gs w0 G A W (nA + (k + 1)) (nW + k) E' (fK I i nw f (k + 1)) (gK I ps[i] i nw g k) w8) := HS9.out.turnA hap hG23 (hM3.congr (fun a b _ _ => by rw [fK_step, hold, hrk', ← hnx]; rfl))
      have HK3 : Hid (Kept3 G A W w w8) := HK9.out.trans (Kept3.of_grown hG23 (.inr (.inl rfl)))
      have HX3 : Hid (w8.heap[wr.heap.size]? = some (.cells #[.int .i64 sk, .int .i64 sx, .int .i64 sy] 92 (0, 0))) := (hG23.block _ (Nat.lt_of_lt_of_le (Array.getElem?_eq_some_iff.1 HX.out).1 hB9.size) (fun e => by have := Option.some.inj e; omega)).trans ((hB9.block _ (Array.getElem?_eq_some_iff.1 HX.out).1).trans HX.out)
      have HW3 := HS3'.out.fb.mW hgs hE1
      have HB0 := HS3.out.2.1
      have HB1 := HS3.out.2.2
      obtain ⟨t0, t1, t2⟩ := blk3 HX3.out
      obtain ⟨mk, hmk⟩ : ∃ mk, img rk nw = mk := ⟨_, rfl⟩
      have hgd : (ps[i].getD k ⟨0, 0, 0⟩).k = sk := by rw [← HSK.out]; simp [List.getD, hlt]
      rw [hmk] at hmS
      clear hEr hEg hEm hL0 hL1 hES hM3 hG3 hG23 HS0 HS2 HS3 HS9 HK9 hnx hold hu1 hfk HS1 HK1 HX HR hBX hB9 b0 b1 HF
      rw [hmk]
      by_cases hcall : sk = 8 ∧ ¬ mk = 0
      · obtain ⟨h8, hm0⟩ := hcall
        subst h8
        go_wp2_with fail
        have HS4 : Hid _ := HS3'.out.below (Below.drew (Below.refl _ _))
        obtain ⟨w5, hUr, hUm, hUg⟩ := HS4.out.w.update (by omega) hik hkk (x := mk) (WalkArith.wf_i64 (by have := hmS.1; have := hmS.2; omega))
        have HS5 : Hid (FND (.slice (some ⟨gp, op, none⟩) ps.length cap) gs w0 G A W (nA + (k + 1)) (nW + (k + 1)) E' (fK I i nw f (k + 1)) (gK I ps[i] i nw g (k + 1)) w5) := HS4.out.turnW hap hUg (hUm.congr (fun a b _ _ => by rw [gK_step I ps[i] i nw g k hgd (by rw [hrk', hmk]; exact hm0), hrk', hmk]))
        have HK5 : Hid (Kept3 G A W w w5) := HK3.out.trans ((Kept3.of_below (Below.drew (Below.refl _ _))).trans (Kept3.of_grown hUg (.inr (.inr rfl))))
        have HS6 : Hid (w5.cell? ⟨G, 342, none⟩ = some (.map (some W)) ∧ w5.cell? ⟨B, 0, none⟩ = some (.int .i64 (i : Int)) ∧ w5.cell? ⟨B, 1, none⟩ = some (.int .i64 (k : Int))) := ⟨(cell_grown hUg hap.gw HS4.out.fb.lt _).trans HW3, (cell_grown hUg hBV (World.block_lt_of_cell? w8 _ HB0) _).trans HB0, (cell_grown hUg hBV (World.block_lt_of_cell? w8 _ HB0) _).trans HB1⟩
        refine wp_region_held_drew (S := fun w' => w'.cell? ⟨G, 342, none⟩ = some (.map (some W)) ∧ w'.cell? ⟨B, 0, none⟩ = some (.int .i64 (i : Int)) ∧ w'.cell? ⟨B, 1, none⟩ = some (.int .i64 (k : Int))) (by kernel_rfl) ⟨HW3, HB0, HB1⟩ (fun hHeld => ?_)
        refine wpAnyH_take (i := 0) (oi := ?oir0) (v := .pointer (some ⟨G, 0, none⟩)) ?hir0 (by kernel_rfl) (by kernel_rfl) (by kernel_rfl) ?hqr0 ?hyr0 hHeld ?hrr0
        case hir0 =>
         simp only [gA, gB, gC]
         rfl
        case hqr0 => exact fun _ _ _ h => h
        case hyr0 => exact Or.inl ⟨by kernel_rfl, fun w hSw => by go_simp⟩
        try simp only [Act.put, gD, gE, gF]
        refine wpAnyH_take (i := 1) (oi := ?oir1) (v := .pointer (some ⟨G, 0, none⟩)) ?hir1 (by kernel_rfl) (by kernel_rfl) (by kernel_rfl) ?hqr1 ?hyr1 hHeld ?hrr1
        case hir1 =>
         simp only [gA, gB, gC]
         rfl
        case hqr1 => exact fun _ _ _ h => h
        case hyr1 => exact Or.inl ⟨by kernel_rfl, fun w hSw => by go_simp⟩
        try simp only [Act.put, gD, gE, gF]
        refine wpAnyH_take (i := 2) (oi := ?oir2) (v := .pointer (some ⟨G, 342, none⟩)) ?hir2 (by kernel_rfl) (by kernel_rfl) (by kernel_rfl) ?hqr2 ?hyr2 hHeld ?hrr2
        case hir2 =>
         simp only [gA, gB, gC]
         rfl
        case hqr2 => exact fun _ _ _ h => h
        case hyr2 => exact Or.inl ⟨by kernel_rfl, fun w hSw => by go_simp⟩
        try simp only [Act.put, gD, gE, gF]
        refine wpAnyH_take (i := 3) (oi := ?oir3) (v := .map (some W)) ?hir3 (by kernel_rfl) (by kernel_rfl) (by kernel_rfl) ?hqr3 ?hyr3 hHeld ?hrr3
        case hir3 =>
         simp only [gA, gB, gC]
         rfl
        case hqr3 => exact fun _ _ _ h => h
        case hyr3 => exact Or.inl ⟨by kernel_rfl, fun w hSw => by obtain ⟨s1, s2, s3⟩ := hSw; go_simp⟩
        try simp only [Act.put, gD, gE, gF]
        refine wpAnyH_take (i := 4) (oi := ?oir4) (v := .agg #[.int .i64 (i : Int), .int .i64 (k : Int)]) ?hir4 (by kernel_rfl) (by kernel_rfl) (by kernel_rfl) ?hqr4 ?hyr4 hHeld ?hrr4
        case hir4 =>
         simp only [gA, gB, gC]
         rfl
        case hqr4 => exact fun _ _ _ h => h
        case hyr4 => exact Or.inl ⟨by kernel_rfl, fun w hSw => by obtain ⟨s1, s2, s3⟩ := hSw; go_simp⟩
        try simp only [Act.put, gD, gE, gF]
        refine wpAnyH_take (i := 5) (oi := ?oir5) (v := .int .i64 mk) ?hir5 (by kernel_rfl) (by kernel_rfl) (by kernel_rfl) ?hqr5 ?hyr5 hHeld ?hrr5
        case hir5 =>
         simp only [gA, gB, gC]
         rfl
        case hqr5 => exact fun _ _ _ h => h
        case hyr5 => exact Or.inl ⟨by kernel_rfl, fun w hSw => by go_simp⟩
        try simp only [Act.put, gD, gE, gF]
        refine wpAnyH_ready (rs := [6]) (by kernel_rfl) (by simp) ?_
        refine (AllReadyH.cons (o := ?oor6) ?hor6 (fun K hK => ?hkr6) AllReadyH.nil)
        case hor6 =>
         simp only [gA, gB, gC]
         rfl
        case hkr6 =>
         unfold plV at hUr
         go_simp
         try go_wp2_with fail
         refine hK.out _ _ HS6.out (fun hHeld => ?_)
         clear hK K
         try simp only [Act.put, gD, gE, gF]
         refine wpAnyH_done (by kernel_rfl) ?_ _
         go_wp2_with fail
         go_roundw
         case rel => exact ⟨k + 1, by omega, by go_num, HS5.out, HK5.out⟩
         case measure => simp [intOf]; omega
      · have HS5 : Hid (FND (.slice (some ⟨gp, op, none⟩) ps.length cap) gs w0 G A W (nA + (k + 1)) (nW + (k + 1)) E' (fK I i nw f (k + 1)) (gK I ps[i] i nw g (k + 1)) w8) := ⟨HS3'.out.fb, HS3'.out.a, (HS3'.out.w.mono (by omega)).congr (fun a b _ _ => gK_skip I ps[i] i nw g k (fun h => hcall ⟨hgd ▸ h.1, fun e => h.2 (by rw [hrk', hmk, e])⟩) a b), HS3'.out.bl⟩
        by_cases h8 : sk = 8
        · have hm0 : mk = 0 := Classical.byContradiction fun h => hcall ⟨h8, h⟩
          clear hcall
          subst h8 hm0
          go_wp2_with fail
          go_roundw
          case rel => exact ⟨k + 1, by omega, by go_num, HS5.out, HK3.out⟩
          case measure => simp [intOf]; omega
        · clear hcall
          go_wp2_with fail
          go_roundw
          case rel => exact ⟨k + 1, by omega, by go_num, HS5.out, HK3.out⟩
          case measure => simp [intOf]; omega
  · have hkk : k = ps[i].length := by omega
    subst hkk
    clear S K
    go_wp2_with fail
    go_returns
    subst hE'
    exact ⟨⟨_, rfl⟩, ⟨HS.out.fb, HS.out.a.mono (by omega), HS.out.w.mono (by omega), HS.out.bl⟩, HK.out⟩

end Go.Proofs.Ytnjbihfceckpfaa
