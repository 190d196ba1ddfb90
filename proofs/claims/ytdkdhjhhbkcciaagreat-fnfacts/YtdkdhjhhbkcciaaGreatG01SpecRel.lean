/-
 Put together out of: RelOk, RelM, SpecRel.
-/
import Derived.Test.YtdkdhjhhbkcciaaGreatG00Put
import Derived.Laws.BitsAllLaws
import Derived.Deep.AppendLies
import Derived.Deep.RegionHeld3
namespace Go.Proofs.YtdkdhjhhbkcciaaGreat
open Go.RowKit
set_option linter.unusedVariables false
set_option maxHeartbeats 1000000
def relOk (xs : List Int) : Bool := xs.all (fun x => inB x 0 127) && decide (xs.length = 7)
theorem wiB_inB (x : Int) : wiB x 128 = inB x 0 127 := by
 unfold wiB inB
 congr 1
 simp only [decide_eq_decide]
 omega
end Go.Proofs.YtdkdhjhhbkcciaaGreat
namespace Go.Proofs.YtdkdhjhhbkcciaaGreat
open Go.RowKit
set_option linter.unusedVariables false
def lor (a b : Int) : Int := bits .or .i64 a b
def bit (x : Int) (t : Nat) : Bool := x.toNat.testBit t
def imgK (rs : List Int) (s : Int) : Nat → Int
 | 0 => 0
 | k + 1 => if bit s k = true then lor (imgK rs s k) (rs.getD k 0) else imgK rs s k
def img (rs : List Int) (s : Int) : Int := imgK rs s 7
def comp (xs ys : List Int) : List Int := xs.map (img ys)
def joi (xs ys : List Int) : List Int := List.zipWith lor xs ys
def unitL : List Int := [1, 2, 4, 8, 16, 32, 64]
theorem ofInt_i64 (a : Nat) (ha : a < 9223372036854775808) : (BitVec.ofInt 64 (a : Int)).toNat = a := by
 rw [BitVec.ofInt_natCast, BitVec.toNat_ofNat]; exact Nat.mod_eq_of_lt (by omega)
theorem wrap_nat (c : Nat) (h : c < 2 ^ 63) : IntKind.i64.wrap (c : Int) = c := by
 simp [IntKind.wrap, IntKind.bits, IntKind.signed]
 omega
theorem i64_or_nat (a b : Nat) (ha : a < 9223372036854775808) (hb : b < 9223372036854775808) : bits .or .i64 (a : Int) (b : Int) = ((a ||| b : Nat) : Int) := by
 have hx : a ||| b < 2 ^ 63 := Nat.or_lt_two_pow (by omega) (by omega)
 show IntKind.i64.wrap ((BitVec.ofInt 64 (a : Int) ||| BitVec.ofInt 64 (b : Int)).toNat : Int) = _
 rw [BitVec.toNat_or, ofInt_i64 a ha, ofInt_i64 b hb]
 generalize a ||| b = c at *
 exact wrap_nat c hx
theorem i64_and_nat (a b : Nat) (ha : a < 9223372036854775808) (hb : b < 9223372036854775808) : bits .and .i64 (a : Int) (b : Int) = ((a &&& b : Nat) : Int) := by
 have hx : a &&& b < 2 ^ 63 := Nat.and_lt_two_pow _ (by omega)
 show IntKind.i64.wrap ((BitVec.ofInt 64 (a : Int) &&& BitVec.ofInt 64 (b : Int)).toNat : Int) = _
 rw [BitVec.toNat_and, ofInt_i64 a ha, ofInt_i64 b hb]
 generalize a &&& b = c at *
 exact wrap_nat c hx
def Small (x : Int) : Prop := 0 ≤ x ∧ x ≤ 127
theorem small_in {x : Int} : inB x 0 127 = true ↔ Small x := by simp [inB, Small]
theorem small_nat {x : Int} (h : Small x) : ∃ n : Nat, x = n ∧ n < 2 ^ 7 := by
 obtain ⟨h1, h2⟩ := h
 exact ⟨x.toNat, by omega, by omega⟩
theorem lor_nat (a b : Nat) (ha : a < 2 ^ 7) (hb : b < 2 ^ 7) : lor (a : Int) (b : Int) = ((a ||| b : Nat) : Int) := i64_or_nat a b (by omega) (by omega)
theorem lor_small {a b : Int} (ha : Small a) (hb : Small b) : Small (lor a b) := by
 obtain ⟨m, rfl, hm⟩ := small_nat ha
 obtain ⟨n, rfl, hn⟩ := small_nat hb
 rw [lor_nat m n hm hn]
 have : m ||| n < 2 ^ 7 := Nat.or_lt_two_pow hm hn
 exact ⟨by omega, by omega⟩
theorem bit_lor {a b : Int} (ha : Small a) (hb : Small b) (t : Nat) : bit (lor a b) t = (bit a t || bit b t) := by
 obtain ⟨m, rfl, hm⟩ := small_nat ha
 obtain ⟨n, rfl, hn⟩ := small_nat hb
 rw [lor_nat m n hm hn]
 simp [bit, Nat.testBit_or]
theorem bit_ext {a b : Int} (ha : Small a) (hb : Small b) (h : ∀ t, t < 7 → bit a t = bit b t) : a = b := by
 obtain ⟨m, rfl, hm⟩ := small_nat ha
 obtain ⟨n, rfl, hn⟩ := small_nat hb
 congr 1
 refine Nat.eq_of_testBit_eq (fun t => ?_)
 by_cases ht : t < 7
 · exact h t ht
 · have e : 2 ^ 7 ≤ 2 ^ t := Nat.pow_le_pow_right (by omega) (by omega)
   rw [Nat.testBit_lt_two_pow (Nat.lt_of_lt_of_le hm e), Nat.testBit_lt_two_pow (Nat.lt_of_lt_of_le hn e)]
theorem bit_mod {s : Int} (k : Nat) (hs : 0 ≤ s) : (s / 2 ^ k) % 2 = if bit s k = true then 1 else 0 := by
 obtain ⟨n, rfl⟩ := Int.eq_ofNat_of_zero_le hs
 simp only [bit, Int.toNat_natCast, Nat.testBit_eq_decide_div_mod_eq]
 have : ((n : Int) / 2 ^ k) % 2 = ((n / 2 ^ k % 2 : Nat) : Int) := by push_cast; rfl
 rw [this]
 have h2 : n / 2 ^ k % 2 < 2 := Nat.mod_lt _ (by omega)
 by_cases h : n / 2 ^ k % 2 = 1
 · rw [if_pos (by simpa using h), h]; rfl
 · rw [if_neg (by simpa using h)]; omega
theorem bit_and {s : Int} (k : Nat) (hs : Small s) : bits .and .i64 (s / 2 ^ k) 1 = if bit s k = true then 1 else 0 := by
 rw [← bit_mod k hs.1]
 obtain ⟨n, rfl, hn⟩ := small_nat hs
 have e : ((n : Int) / 2 ^ k) = ((n / 2 ^ k : Nat) : Int) := by push_cast; rfl
 have hle : n / 2 ^ k ≤ n := Nat.div_le_self _ _
 rw [e]
 have := i64_and_nat (n / 2 ^ k) 1 (by omega) (by omega)
 rw [Nat.and_one_is_mod] at this
 refine Eq.trans this ?_
 push_cast
 rfl
theorem bit_tmod {s : Int} (k : Nat) (hs : Small s) : (s / 2 ^ k).tmod 2 = if bit s k = true then 1 else 0 := by
 rw [← bit_mod k hs.1]
 refine Int.tmod_eq_emod_of_nonneg ?_
 exact Int.ediv_nonneg hs.1 (Int.pow_nonneg (by omega))
def Smalls (xs : List Int) : Prop := xs.length = 7 ∧ ∀ x ∈ xs, Small x
theorem relOk_iff {xs : List Int} : relOk xs = true ↔ Smalls xs := by
 simp only [relOk, Bool.and_eq_true, List.all_eq_true, decide_eq_true_eq, Smalls, small_in]
 exact And.comm
theorem Smalls.getD {xs : List Int} (h : Smalls xs) (k : Nat) : Small (xs.getD k 0) := by
 rcases Nat.lt_or_ge k xs.length with hk | hk
 · have : xs.getD k 0 = xs[k] := by simp [List.getD, hk]
   rw [this]; exact h.2 _ (List.getElem_mem hk)
 · have : xs.getD k 0 = 0 := by simp [List.getD, List.getElem?_eq_none hk]
   rw [this]; exact ⟨by omega, by omega⟩
theorem imgK_small {rs : List Int} (h : Smalls rs) (s : Int) : ∀ k, Small (imgK rs s k)
 | 0 => ⟨by simp [imgK], by simp [imgK]⟩
 | k + 1 => by
  rw [imgK]
  split
  · exact lor_small (imgK_small h s k) (h.getD k)
  · exact imgK_small h s k
theorem img_small {rs : List Int} (h : Smalls rs) (s : Int) : Small (img rs s) := imgK_small h s 7
theorem bit_zero (t : Nat) : bit 0 t = false := by simp [bit]
theorem bit_imgK {rs : List Int} (h : Smalls rs) (s : Int) (t : Nat) : ∀ k, bit (imgK rs s k) t = true ↔ ∃ i, i < k ∧ bit s i = true ∧ bit (rs.getD i 0) t = true
 | 0 => by simp [imgK, bit_zero]
 | k + 1 => by
  have ih := bit_imgK h s t k
  rw [imgK]
  by_cases hb : bit s k = true
  · rw [if_pos hb, bit_lor (imgK_small h s k) (h.getD k), Bool.or_eq_true, ih]
    constructor
    · rintro (⟨i, h1, h2, h3⟩ | h3)
      · exact ⟨i, by omega, h2, h3⟩
      · exact ⟨k, by omega, hb, h3⟩
    · rintro ⟨i, h1, h2, h3⟩
      by_cases e : i = k
      · subst e; exact .inr h3
      · exact .inl ⟨i, by omega, h2, h3⟩
  · rw [if_neg hb, ih]
    constructor
    · rintro ⟨i, h1, h2, h3⟩
      exact ⟨i, by omega, h2, h3⟩
    · rintro ⟨i, h1, h2, h3⟩
      by_cases e : i = k
      · subst e; exact absurd h2 hb
      · exact ⟨i, by omega, h2, h3⟩
theorem bit_img {rs : List Int} (h : Smalls rs) (s : Int) (t : Nat) : bit (img rs s) t = true ↔ ∃ i, i < 7 ∧ bit s i = true ∧ bit (rs.getD i 0) t = true := bit_imgK h s t 7
end Go.Proofs.YtdkdhjhhbkcciaaGreat
namespace Go.Proofs.YtdkdhjhhbkcciaaGreat
open Go.RowKit
set_option linter.unusedVariables false
set_option maxHeartbeats 1000000
theorem l6Image (rs : List Int) (s : Int) (v : Value) (w : World) (hr : Smalls rs) (hs : Small s) (hv : Reads w v (ints rs)) :
 Calls Tryz.prog 57 #[v, .int .i64 s] w fun e w' => e = .returned (.int .i64 (img rs s)) ∧ Below w.heap.size w w' := by
 obtain ⟨ao, cap, rfl, hc⟩ := hv
 have h7 := hr.1
 simp only [ints_length, h7]
 go_enter Tryz.func57, Tryz.ntmps57
 go_wp2
 go_loopw [5, 6] (fun n i wr => ∃ k : Nat, k ≤ 7 ∧ i = .int .i64 k ∧ n = .int .i64 (imgK rs s k) ∧ w = wr) (fun _ i _ => 7 - (intOf i).toNat)
 case atStart => exact ⟨0, by omega, rfl, rfl, rfl⟩
 case round =>
  obtain ⟨k, hk, rfl, rfl, rfl⟩ := hrel
  by_cases hlt : k < 7
  · have hlt' : (k : Int) < 7 := by omega
    obtain ⟨g, off, rfl, hg⟩ := hc k (.int .i64 (rs.getD k 0)) (by simp [ints, List.getD, h7, hlt])
    have hb := bit_tmod k hs
    have HI : Hid (imgK rs s (k + 1) = if bit s k = true then lor (imgK rs s k) (rs.getD k 0) else imgK rs s k) := by exact rfl
    clear hc
    generalize rs.getD k 0 = y at *
    generalize imgK rs s k = z at *
    by_cases hbit : bit s k = true
    · rw [if_pos hbit] at hb
      have HI2 := HI.out
      rw [if_pos hbit] at HI2
      have HI3 : Hid _ := HI2
      clear HI HI2
      go_wp2
      go_roundw
      case rel => exact ⟨k + 1, by omega, by go_num, by rw [HI3.out]; rfl, trivial⟩
      case measure => simp [intOf]; omega
    · rw [if_neg hbit] at hb
      have HI2 := HI.out
      rw [if_neg hbit] at HI2
      have HI3 : Hid _ := HI2
      clear HI HI2
      go_wp2
      go_roundw
      case rel => exact ⟨k + 1, by omega, by go_num, by rw [HI3.out], trivial⟩
      case measure => simp [intOf]; omega
  · have hkk : k = 7 := by omega
    subst hkk
    go_wp2
    go_ret
    exact ⟨rfl, Below.refl _ _⟩
theorem comp_take {xs ys : List Int} {k : Nat} (h : k < xs.length) : (comp xs ys).take (k + 1) = (comp xs ys).take k ++ [img ys (xs.getD k 0)] := by
 rw [List.take_add_one]
 simp [comp, List.getD, h]
theorem joi_take {xs ys : List Int} {k : Nat} (h : k < xs.length) (h' : k < ys.length) : (joi xs ys).take (k + 1) = (joi xs ys).take k ++ [lor (xs.getD k 0) (ys.getD k 0)] := by
 rw [List.take_add_one]
 simp [joi, List.getD, h, h', List.getElem?_zipWith]
theorem ints_append (xs ys : List Int) : ints (xs ++ ys) = ints xs ++ ints ys := by simp [ints]
theorem getD_int {w : World} {ao : Option Addr} {xs : List Int} (hc : ∀ (j : Nat) (x : Value), (ints xs)[j]? = some x → ∃ g off, ao = some ⟨g, off, none⟩ ∧ w.cell? ⟨g, off + j, none⟩ = some x) {k : Nat} (h : k < xs.length) :
 ∃ g off, ao = some ⟨g, off, none⟩ ∧ w.cell? ⟨g, off + k, none⟩ = some (.int .i64 (xs.getD k 0)) := hc k _ (by simp [ints, List.getD, h])
theorem l6Compose (xs ys : List Int) (v u : Value) (w : World) (hx : Smalls xs) (hy : Smalls ys) (hv : Reads w v (ints xs)) (hu : Reads w u (ints ys)) :
 Calls Tryz.prog 88 #[v, u] w fun e w' => ∃ a, e = .returned a ∧ w'.ownsRow w.heap.size 2 1 a (comp xs ys).length (ints (comp xs ys)) ∧ Below w.heap.size w w' := by
 obtain ⟨i0, hi, hz0, hz1, hz2⟩ := info_parts infoInt
 obtain ⟨ao, cap, rfl, hc⟩ := hv
 have h7 := hx.1
 have hcl : (comp xs ys).length = 7 := by simp [comp, h7]
 simp only [ints_length, h7]
 go_enter Tryz.func88, Tryz.ntmps88
 go_wp2
 have B0 : Below w.heap.size w (w.alloc (.cells #[] 2)) := by go_grown
 go_loopw [5, 6] (fun o i wr => ∃ k : Nat, k ≤ 7 ∧ i = .int .i64 k ∧ wr.ownsRow w.heap.size 2 1 o ((comp xs ys).take k).length (ints ((comp xs ys).take k)) ∧ Below w.heap.size w wr) (fun _ i _ => 7 - (intOf i).toNat)
 case atStart => exact ⟨0, by omega, rfl, by simpa [ints] using made0 w, B0⟩
 case round =>
  obtain ⟨k, hk, rfl, hown, hb⟩ := hrel
  by_cases hlt : k < 7
  · have hlt' : (k : Int) < 7 := by omega
    obtain ⟨g, off, rfl, hg⟩ := getD_int hc (k := k) (by omega)
    have hg := (hb.cell (World.block_lt_of_cell? w _ hg)).trans hg
    have HN : Hid _ := comp_take (xs := xs) (ys := ys) (k := k) (by omega)
    have hsm := hx.getD k
    have him := l6Image ys (xs.getD k 0) u
    generalize xs.getD k 0 = x at *
    have hll : ((comp xs ys).take k).length ≤ 7 := by rw [List.length_take]; omega
    clear hc
    go_wp2_with fail
    go_at_call 57
    refine (him wr hy hsm (reads_below hu hb)).mono ?_
    rintro e w1 ⟨rfl, b1⟩
    have L1 := hb.trans (b1.mono hb.size)
    have s1 := b1.size
    have hb0 := hb.size
    have hown := own_kept hown b1
    have B1 : Hid (Below w.heap.size w (w1.alloc (.cells #[.int .i64 (img ys x)] 2))) := L1.alloc (by omega) _
    have HSZ : Hid (w.heap.size ≤ (w1.alloc (.cells #[.int .i64 (img ys x)] 2)).heap.size) := by exact B1.out.size
    go_wp2_with (first
     | (at_builtin; refine wpList_append_own _ rfl (.tmp 12) (.tmp 19) 39 rfl w.heap.size 2 i0 (.int .i64 0) 1 8 Tryz.underlying39 hi hz0 hz1 hz2 rfl (by decide) _ _ _ rfl (hown.alloc _) ⟨w1.heap.size, 0, none⟩ 1 _ [.int .i64 (img ys x)] rfl rfl (cell_one w1 _) (ints_oneCell [img ys x]) (by unfold maxLen; omega) (by omega) HSZ.out ?_; intro v2 w2 own2 grow2 _; have L2 := below_app B1.out grow2 (fun q hq => (hown.lt q hq).1))
     | go_in)
    go_roundw
    case rel =>
     refine ⟨k + 1, by omega, by go_num, ?_, L2⟩
     rw [HN.out, ints_append, List.length_append]
     exact own2
    case measure => simp [intOf]; omega
  · have hkk : k = 7 := by omega
    subst hkk
    rw [← hcl, List.take_length] at hown
    go_wp2
    go_ret
    exact ⟨_, rfl, hown, hb⟩
theorem l6Join (xs ys : List Int) (v u : Value) (w : World) (hx : Smalls xs) (hy : Smalls ys) (hv : Reads w v (ints xs)) (hu : Reads w u (ints ys)) :
 Calls Tryz.prog 91 #[v, u] w fun e w' => ∃ a, e = .returned a ∧ w'.ownsRow w.heap.size 2 1 a (joi xs ys).length (ints (joi xs ys)) ∧ Below w.heap.size w w' := by
 obtain ⟨i0, hi, hz0, hz1, hz2⟩ := info_parts infoInt
 obtain ⟨ao, cap, rfl, hc⟩ := hv
 obtain ⟨bo, cap', rfl, hd⟩ := hu
 have h7 := hx.1
 have h7' := hy.1
 have hcl : (joi xs ys).length = 7 := by simp [joi, h7, hy.1]
 simp only [ints_length, h7, h7']
 go_enter Tryz.func91, Tryz.ntmps91
 go_wp2
 have B0 : Below w.heap.size w (w.alloc (.cells #[] 2)) := by go_grown
 go_loopw [5, 6] (fun o i wr => ∃ k : Nat, k ≤ 7 ∧ i = .int .i64 k ∧ wr.ownsRow w.heap.size 2 1 o k (ints ((joi xs ys).take k)) ∧ Below w.heap.size w wr) (fun _ i _ => 7 - (intOf i).toNat)
 case atStart => exact ⟨0, by omega, rfl, by simpa [ints] using made0 w, B0⟩
 case round =>
  obtain ⟨k, hk, rfl, hown, hb⟩ := hrel
  by_cases hlt : k < 7
  · have hlt' : (k : Int) < 7 := by omega
    obtain ⟨g, off, rfl, hg⟩ := getD_int hc (k := k) (by omega)
    obtain ⟨g', off', rfl, hg'⟩ := getD_int hd (k := k) (by omega)
    have hga : ∀ W, Below w.heap.size w W → W.cell? ⟨g, off + k, none⟩ = some (.int .i64 (xs.getD k 0)) ∧ W.cell? ⟨g', off' + k, none⟩ = some (.int .i64 (ys.getD k 0)) := fun W hW => ⟨(hW.cell (World.block_lt_of_cell? w _ hg)).trans hg, (hW.cell (World.block_lt_of_cell? w _ hg')).trans hg'⟩
    clear hg hg'
    have HN : Hid _ := joi_take (xs := xs) (ys := ys) (k := k) (by omega) (by omega)
    generalize xs.getD k 0 = x at *
    generalize ys.getD k 0 = y at *
    clear hc hd
    have hb0 := hb.size
    have B1 : Below w.heap.size w (wr.alloc (.cells #[.int .i64 (lor x y)] 2)) := hb.alloc (by omega) _
    have q1 := hga _ hb
    have q2 := hga _ B1
    have HSZ : w.heap.size ≤ (wr.alloc (.cells #[.int .i64 (lor x y)] 2)).heap.size := by exact B1.size
    have HB1 : Hid _ := B1
    have HQ : Hid _ := q2
    have HGA : Hid _ := hga
    have HBK : Hid _ := heap_alloc_new wr (.cells #[.int .i64 (lor x y)] 2)
    have hone := ints_oneCell [lor x y]
    have hlb : (k + 1) * 8 ≤ 140737488355328 := by omega
    have hlm : k + 1 ≤ maxLen := by unfold maxLen; omega
    clear B1 q2 HSZ hga
    go_wp2_with fail
    go_region_held3 (fun w' => w'.cell? ⟨g, off + k, none⟩ = some (.int .i64 x) ∧ w'.cell? ⟨g', off' + k, none⟩ = some (.int .i64 y)) (first | exact q1 | exact HQ.out | exact q3) (first
     | (refine step_append_lies _ rfl (.tmp 12) (.tmp 22) 39 rfl w.heap.size 2 i0 (.int .i64 0) 1 8 Tryz.underlying39 hi hz0 hz1 hz2 rfl (by decide) _ _ _ rfl (own_kept hown (by go_grown)) ⟨wr.heap.size, 0, none⟩ 1 1 [.int .i64 (lor x y)] rfl rfl (World.news_of_block HBK.out) hone (by omega) hlm hlb (by simp; omega) _ rfl ?_; intro g2 cap2 w2 own2 grow2 hat2 hlt2; have L2 : Below w.heap.size w w2 := below_app (hb.trans (Below.mono (by go_grown) hb0)) grow2 (fun q hq => (hown.lt q hq).1); have q3 := HGA.out _ L2))
    clear q1 q3 HQ HBK HGA HB1
    go_wp2
    go_roundw
    case rel =>
     refine ⟨k + 1, by omega, by go_num, ?_, L2⟩
     rw [HN.out, ints_append]
     exact own2
    case measure => simp [intOf]; omega
  · have hkk : k = 7 := by omega
    subst hkk
    rw [show (joi xs ys).take 7 = joi xs ys from by rw [← hcl, List.take_length]] at hown
    go_wp2
    go_ret
    exact ⟨_, rfl, by rw [hcl]; exact hown, hb⟩
theorem list_ext_take {xs ys : List Int} {k : Nat} (hk : k < xs.length) (hl : xs.length = ys.length) (h : xs.take k = ys.take k) (hx : xs.getD k 0 = ys.getD k 0) : xs.take (k + 1) = ys.take (k + 1) := by
 have hk' : k < ys.length := by omega
 rw [List.take_add_one, List.take_add_one, h, List.getElem?_eq_getElem hk, List.getElem?_eq_getElem hk']
 simp [List.getD, hk, hk'] at hx
 rw [hx]
theorem list_ne_get {xs ys : List Int} {k : Nat} (hx : ¬ xs.getD k 0 = ys.getD k 0) : ¬ xs = ys := fun h => hx (by rw [h])
theorem l1Like (xs ys : List Int) (v u : Value) (w : World) (hx : xs.length ≤ maxLen) (hy : ys.length ≤ maxLen) (hv : Reads w v (ints xs)) (hu : Reads w u (ints ys)) :
 Calls Tryz.prog 92 #[v, u] w fun e w' => e = .returned (.bool (decide (xs = ys))) ∧ Below w.heap.size w w' := by
 unfold maxLen at hx hy
 obtain ⟨ao, cap, rfl, hc⟩ := hv
 obtain ⟨bo, cap', rfl, hd⟩ := hu
 simp only [ints_length]
 by_cases hlen : (xs.length : Int) = ys.length
 · have hlen' : xs.length = ys.length := by omega
   rw [← hlen']
   have HL : Hid _ := hlen'
   clear hlen hlen'
   go_enter Tryz.func92, Tryz.ntmps92
   go_wp2
   go_loopw [5] (fun i wr => ∃ k : Nat, k ≤ xs.length ∧ i = .int .i64 k ∧ xs.take k = ys.take k ∧ Below w.heap.size w wr) (fun i _ => xs.length - (intOf i).toNat)
   case atStart => exact ⟨0, Nat.zero_le _, rfl, by simp, Below.refl _ _⟩
   case round =>
    obtain ⟨k, hk, rfl, htk, hb⟩ := hrel
    by_cases hlt : k < xs.length
    · obtain ⟨g, off, rfl, hg⟩ := getD_int hc hlt
      obtain ⟨g', off', rfl, hg'⟩ := getD_int hd (k := k) (by have := HL.out; omega)
      have hg := (hb.cell (World.block_lt_of_cell? w _ hg)).trans hg
      have hg' := (hb.cell (World.block_lt_of_cell? w _ hg')).trans hg'
      have hlt' : (k : Int) < (xs.length : Int) := by omega
      have HE : Hid _ := list_ext_take hlt HL.out htk
      have HN : Hid _ := @list_ne_get xs ys k
      clear hc hd htk
      generalize xs.getD k 0 = x at *
      generalize ys.getD k 0 = y at *
      by_cases hxy : x = y
      · subst hxy
        go_wp2
        go_quiet (fail)
        go_wp2
        go_roundw
        case rel => exact ⟨k + 1, by omega, by go_num, HE.out trivial, below_drewN hb _⟩
        case measure => simp [intOf]; omega
      · go_wp2
        go_quiet (fail)
        go_wp2
        go_ret
        exact ⟨by rw [decide_eq_false (HN.out hxy)]; rfl, below_drewN hb _⟩
    · have hkk : k = xs.length := by omega
      subst hkk
      rw [List.take_length, HL.out, List.take_length] at htk
      have HE : Hid _ := htk
      clear htk
      go_wp2
      go_ret
      exact ⟨by rw [decide_eq_true HE.out]; rfl, hb⟩
 · have hne : ¬ xs = ys := fun h => hlen (by rw [h])
   go_enter Tryz.func92, Tryz.ntmps92
   go_wp2
   go_ret
   exact ⟨by rw [decide_eq_false hne]; rfl, Below.refl _ _⟩
theorem specUnit (w : World) : Calls Tryz.prog 87 #[] w fun e w' => ∃ a, e = .returned a ∧ w'.ownsRow w.heap.size 2 1 a unitL.length (ints unitL) ∧ Below w.heap.size w w' := by
 go_enter Tryz.func87, Tryz.ntmps87
 go_wp2
 go_ret
 refine ⟨_, rfl, ?_, by go_grown⟩
 exact World.ownsRow_lit (base := w.heap.size) (e := 2) (size := 1) w #[.int .i64 1, .int .i64 2, .int .i64 4, .int .i64 8, .int .i64 16, .int .i64 32, .int .i64 64] 7 (Nat.le_refl _) (by decide) (by simp)
end Go.Proofs.YtdkdhjhhbkcciaaGreat
