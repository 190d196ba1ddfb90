/-
  Put together out of: RelOk, RelM.
-/
import Derived.Test.YtnjbihfceckpfaaPut
import Derived.Laws.BitsAllLaws
/-
  Chapter 6: RelOk, both sides.
-/
namespace Go.Proofs.Ytnjbihfceckpfaa
open Go.RowKit
set_option linter.unusedVariables false
set_option maxHeartbeats 1000000

/-- Is it a relation: seven sets, each from 0 to 127? -/
def relOk (xs : List Int) : Bool := xs.all (fun x => inB x 0 127) && decide (xs.length = 7)

theorem wiB_inB (x : Int) : wiB x 128 = inB x 0 127 := by
  unfold wiB inB
  congr 1
  simp only [decide_eq_decide]
  omega

theorem take_all {xs : List Int} {k : Nat} (hk : k < xs.length) (h : (xs.take k).all (fun x => inB x 0 127) = true) (hx : inB xs[k] 0 127 = true) : (xs.take (k + 1)).all (fun x => inB x 0 127) = true := by
  rw [List.take_add_one, List.getElem?_eq_getElem hk]
  simp only [Option.toList_some, List.all_append, h, List.all_cons, hx, List.all_nil, Bool.and_self]

theorem all_not {xs : List Int} {k : Nat} (hk : k < xs.length) (hx : inB xs[k] 0 127 = false) : xs.all (fun x => inB x 0 127) = false := by
  rw [List.all_eq_false]
  exact ⟨xs[k], List.getElem_mem hk, by simp [hx]⟩


theorem implRelOk (xs : List Int) (v : Value) (w : World) (hl : xs.length ≤ maxLen) (hv : Reads w v (ints xs)) :
    Calls Try.prog 146 #[v] w fun e w' => e = .returned (.bool (relOk xs)) ∧ Below w.heap.size w w' := by
  unfold maxLen at hl
  obtain ⟨ao, cap, rfl, hc⟩ := hv
  simp only [ints_length]
  by_cases h7 : (xs.length : Int) = 7
  · have h7' : xs.length = 7 := by omega
    go_enter Try.func146, Try.ntmps146
    go_wp2
    go_loopw [10] (fun i wr => ∃ k : Nat, k ≤ xs.length ∧ i = .int .i64 k ∧ w = wr ∧ (xs.take k).all (fun x => inB x 0 127) = true) (fun i _ => xs.length - (intOf i).toNat)
    case atStart => exact ⟨0, Nat.zero_le _, rfl, rfl, by simp⟩
    case round =>
      obtain ⟨k, hk, rfl, rfl, hb⟩ := hrel
      by_cases hlt : k < xs.length
      · have hlt' : (k : Int) < 7 := by omega
        obtain ⟨g, off, rfl, hg⟩ := hc k (.int .i64 xs[k]) (by simp [ints, hlt])
        have ht := take_all hlt hb
        have hn := all_not hlt
        clear hc hb
        have HT : Hid _ := ht
        have HN : Hid _ := hn
        clear ht hn
        generalize xs[k] = x at *
        cases hx : inB x 0 127
        · go_wp2_with (go_at_call 137; refine (within _ _ _).mono ?_; rintro e w1 ⟨rfl, rfl⟩; simp only [wiB_inB, hx])
          go_ret
          exact ⟨by rw [relOk, HN.out hx, Bool.false_and]; rfl, Below.refl _ _⟩
        · go_wp2_with (go_at_call 137; refine (within _ _ _).mono ?_; rintro e w1 ⟨rfl, rfl⟩; simp only [wiB_inB, hx])
          go_roundw
          case rel => exact ⟨k + 1, by omega, by go_num, trivial, HT.out hx⟩
          case measure => simp [intOf]; omega
      · have hkk : k = xs.length := by omega
        rw [hkk, List.take_length] at hb
        have h8 : relOk xs = true := by rw [relOk, hb, Bool.true_and]; simp [h7']
        have H8 : Hid _ := h8
        have hlt' : ¬ (k : Int) < 7 := by omega
        clear hb h8
        go_wp2
        go_ret
        exact ⟨by rw [H8.out]; rfl, Below.refl _ _⟩
  · have h8 : relOk xs = false := by
      have : ¬ xs.length = 7 := by omega
      simp [relOk, this]
    rw [h8]
    go_enter Try.func146, Try.ntmps146
    go_wp2
    go_ret
    exact ⟨rfl, Below.refl _ _⟩

end Go.Proofs.Ytnjbihfceckpfaa

/-
  Chapter 6, mathematics: relations as lists of seven sets; what they make, composed and joined, bit by bit.
-/
namespace Go.Proofs.Ytnjbihfceckpfaa
open Go.RowKit
set_option linter.unusedVariables false

/-- Both sets together. -/
def lor (a b : Int) : Int := bits .or .i64 a b

/-- Is t in the set? -/
def bit (x : Int) (t : Nat) : Bool := x.toNat.testBit t

/-- What the facts below k of the set s make. -/
def imgK (rs : List Int) (s : Int) : Nat → Int
  | 0 => 0
  | k + 1 => if bit s k = true then lor (imgK rs s k) (rs.getD k 0) else imgK rs s k

def img (rs : List Int) (s : Int) : Int := imgK rs s 7

def comp (xs ys : List Int) : List Int := xs.map (img ys)

def joi (xs ys : List Int) : List Int := List.zipWith lor xs ys

/-- What Compose and Join answer. -/
def compAns (xs ys : List Int) : List Int := if relOk xs && relOk ys then comp xs ys else []
def joinAns (xs ys : List Int) : List Int := if relOk xs && relOk ys then joi xs ys else []
def imageAns (rs : List Int) (s : Int) : Int := if relOk rs && inB s 0 127 then img rs s else -1
def withinAns (xs ys : List Int) : Bool := relOk xs && relOk ys && decide (joi xs ys = ys)
def unitL : List Int := [1, 2, 4, 8, 16, 32, 64]

theorem ofInt_i64 (a : Nat) (ha : a < 9223372036854775808) : (BitVec.ofInt 64 (a : Int)).toNat = a := by
  rw [BitVec.ofInt_natCast, BitVec.toNat_ofNat]; exact Nat.mod_eq_of_lt (by omega)

theorem wrap_nat (c : Nat) (h : c < 2 ^ 63) : IntKind.i64.wrap (c : Int) = c := by
  simp [IntKind.wrap, IntKind.bits, IntKind.signed]
  omega

theorem i64_or_nat (a b : Nat) (ha : a < 9223372036854775808) (hb : b < 9223372036854775808) : bits .or .i64 (a : Int) (b : Int) = ((a ||| b : Nat) : Int) := by
  have hx : a ||| b < 2 ^ 63 := Nat.or_lt_two_pow (by omega) (by omega)
  show IntKind.i64.wrap ((BitVec.ofInt 64 (a : Int) ||| BitVec.ofInt 64 (b : Int)).toNat : Int) = _
  rw [BitVec.toNat_or, ofInt_i64 a ha, ofInt_i64 b hb]
  generalize a ||| b = c at *
  exact wrap_nat c hx

theorem i64_and_nat (a b : Nat) (ha : a < 9223372036854775808) (hb : b < 9223372036854775808) : bits .and .i64 (a : Int) (b : Int) = ((a &&& b : Nat) : Int) := by
  have hx : a &&& b < 2 ^ 63 := Nat.and_lt_two_pow _ (by omega)
  show IntKind.i64.wrap ((BitVec.ofInt 64 (a : Int) &&& BitVec.ofInt 64 (b : Int)).toNat : Int) = _
  rw [BitVec.toNat_and, ofInt_i64 a ha, ofInt_i64 b hb]
  generalize a &&& b = c at *
  exact wrap_nat c hx

/-- The set is from 0 to 127. -/
def Small (x : Int) : Prop := 0 ≤ x ∧ x ≤ 127

theorem small_in {x : Int} : inB x 0 127 = true ↔ Small x := by simp [inB, Small]

theorem small_nat {x : Int} (h : Small x) : ∃ n : Nat, x = n ∧ n < 2 ^ 7 := by
  obtain ⟨h1, h2⟩ := h
  exact ⟨x.toNat, by omega, by omega⟩

theorem lor_nat (a b : Nat) (ha : a < 2 ^ 7) (hb : b < 2 ^ 7) : lor (a : Int) (b : Int) = ((a ||| b : Nat) : Int) := i64_or_nat a b (by omega) (by omega)

theorem lor_small {a b : Int} (ha : Small a) (hb : Small b) : Small (lor a b) := by
  obtain ⟨m, rfl, hm⟩ := small_nat ha
  obtain ⟨n, rfl, hn⟩ := small_nat hb
  rw [lor_nat m n hm hn]
  have : m ||| n < 2 ^ 7 := Nat.or_lt_two_pow hm hn
  exact ⟨by omega, by omega⟩

theorem bit_lor {a b : Int} (ha : Small a) (hb : Small b) (t : Nat) : bit (lor a b) t = (bit a t || bit b t) := by
  obtain ⟨m, rfl, hm⟩ := small_nat ha
  obtain ⟨n, rfl, hn⟩ := small_nat hb
  rw [lor_nat m n hm hn]
  simp [bit, Nat.testBit_or]

theorem bit_ext {a b : Int} (ha : Small a) (hb : Small b) (h : ∀ t, t < 7 → bit a t = bit b t) : a = b := by
  obtain ⟨m, rfl, hm⟩ := small_nat ha
  obtain ⟨n, rfl, hn⟩ := small_nat hb
  congr 1
  refine Nat.eq_of_testBit_eq (fun t => ?_)
  by_cases ht : t < 7
  · exact h t ht
  · have e : 2 ^ 7 ≤ 2 ^ t := Nat.pow_le_pow_right (by omega) (by omega)
    rw [Nat.testBit_lt_two_pow (Nat.lt_of_lt_of_le hm e), Nat.testBit_lt_two_pow (Nat.lt_of_lt_of_le hn e)]

/-- One bit, as both programs ask for it. -/
theorem bit_mod {s : Int} (k : Nat) (hs : 0 ≤ s) : (s / 2 ^ k) % 2 = if bit s k = true then 1 else 0 := by
  obtain ⟨n, rfl⟩ := Int.eq_ofNat_of_zero_le hs
  simp only [bit, Int.toNat_natCast, Nat.testBit_eq_decide_div_mod_eq]
  have : ((n : Int) / 2 ^ k) % 2 = ((n / 2 ^ k % 2 : Nat) : Int) := by push_cast; rfl
  rw [this]
  have h2 : n / 2 ^ k % 2 < 2 := Nat.mod_lt _ (by omega)
  by_cases h : n / 2 ^ k % 2 = 1
  · rw [if_pos (by simpa using h), h]; rfl
  · rw [if_neg (by simpa using h)]; omega

theorem bit_and {s : Int} (k : Nat) (hs : Small s) : bits .and .i64 (s / 2 ^ k) 1 = if bit s k = true then 1 else 0 := by
  rw [← bit_mod k hs.1]
  obtain ⟨n, rfl, hn⟩ := small_nat hs
  have e : ((n : Int) / 2 ^ k) = ((n / 2 ^ k : Nat) : Int) := by push_cast; rfl
  have hle : n / 2 ^ k ≤ n := Nat.div_le_self _ _
  rw [e]
  have := i64_and_nat (n / 2 ^ k) 1 (by omega) (by omega)
  rw [Nat.and_one_is_mod] at this
  refine Eq.trans this ?_
  push_cast
  rfl

theorem bit_tmod {s : Int} (k : Nat) (hs : Small s) : (s / 2 ^ k).tmod 2 = if bit s k = true then 1 else 0 := by
  rw [← bit_mod k hs.1]
  refine Int.tmod_eq_emod_of_nonneg ?_
  exact Int.ediv_nonneg hs.1 (Int.pow_nonneg (by omega))

/-- All of the list are sets. -/
def Smalls (xs : List Int) : Prop := xs.length = 7 ∧ ∀ x ∈ xs, Small x

theorem relOk_iff {xs : List Int} : relOk xs = true ↔ Smalls xs := by
  simp only [relOk, Bool.and_eq_true, List.all_eq_true, decide_eq_true_eq, Smalls, small_in]
  exact And.comm

theorem Smalls.getD {xs : List Int} (h : Smalls xs) (k : Nat) : Small (xs.getD k 0) := by
  rcases Nat.lt_or_ge k xs.length with hk | hk
  · have : xs.getD k 0 = xs[k] := by simp [List.getD, hk]
    rw [this]; exact h.2 _ (List.getElem_mem hk)
  · have : xs.getD k 0 = 0 := by simp [List.getD, List.getElem?_eq_none hk]
    rw [this]; exact ⟨by omega, by omega⟩

theorem imgK_small {rs : List Int} (h : Smalls rs) (s : Int) : ∀ k, Small (imgK rs s k)
  | 0 => ⟨by simp [imgK], by simp [imgK]⟩
  | k + 1 => by
    rw [imgK]
    split
    · exact lor_small (imgK_small h s k) (h.getD k)
    · exact imgK_small h s k

theorem img_small {rs : List Int} (h : Smalls rs) (s : Int) : Small (img rs s) := imgK_small h s 7

theorem bit_zero (t : Nat) : bit 0 t = false := by simp [bit]

theorem bit_imgK {rs : List Int} (h : Smalls rs) (s : Int) (t : Nat) : ∀ k, bit (imgK rs s k) t = true ↔ ∃ i, i < k ∧ bit s i = true ∧ bit (rs.getD i 0) t = true
  | 0 => by simp [imgK, bit_zero]
  | k + 1 => by
    have ih := bit_imgK h s t k
    rw [imgK]
    by_cases hb : bit s k = true
    · rw [if_pos hb, bit_lor (imgK_small h s k) (h.getD k), Bool.or_eq_true, ih]
      constructor
      · rintro (⟨i, h1, h2, h3⟩ | h3)
        · exact ⟨i, by omega, h2, h3⟩
        · exact ⟨k, by omega, hb, h3⟩
      · rintro ⟨i, h1, h2, h3⟩
        by_cases e : i = k
        · subst e; exact .inr h3
        · exact .inl ⟨i, by omega, h2, h3⟩
    · rw [if_neg hb, ih]
      constructor
      · rintro ⟨i, h1, h2, h3⟩
        exact ⟨i, by omega, h2, h3⟩
      · rintro ⟨i, h1, h2, h3⟩
        by_cases e : i = k
        · subst e; exact absurd h2 hb
        · exact ⟨i, by omega, h2, h3⟩

theorem bit_img {rs : List Int} (h : Smalls rs) (s : Int) (t : Nat) : bit (img rs s) t = true ↔ ∃ i, i < 7 ∧ bit s i = true ∧ bit (rs.getD i 0) t = true := bit_imgK h s t 7

end Go.Proofs.Ytnjbihfceckpfaa
