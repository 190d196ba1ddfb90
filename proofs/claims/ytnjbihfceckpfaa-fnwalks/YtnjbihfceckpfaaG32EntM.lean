/-
 Put together out of: ImplWt, EntM.
-/
import Derived.Test.YtnjbihfceckpfaaImplWi
import Derived.Test.YtnjbihfceckpfaaG18TabEx
import Derived.Test.YtnjbihfceckpfaaG08FlowTop
/-
 Chapter 12, the program's side: openPlaces; WalkOk, Open, Steps, Holding.
-/
namespace Go.Proofs.Ytnjbihfceckpfaa
open Go.RowKit
set_option linter.unusedVariables false
set_option linter.unusedSimpArgs false
set_option maxHeartbeats 4000000
set_option maxRecDepth 20000

theorem implWalkOk (ps : List (List Stm)) (xs : List Int) (n : Nat) (v xv : Value) (w : World) (hl : ps.length ≤ maxLen) (hp : ∀ p ∈ ps, p.length ≤ maxLen) (hv : ReadsP w v ps)
 (hx : xs.length = 2 * n) (hn : n ≤ maxLen) (hxv : Reads2 w xv n (ints xs)) (hcap : ∀ a c', xv = .slice a n c' → n ≤ c') :
 Calls Try.prog 36 #[.agg #[v], xv] w fun e w' => e = .returned (.bool (walkA 1 ps xs n).isSome) ∧ Below w.heap.size w w' := by
 have b0 : Below w.heap.size w (w.alloc (.cells #[v] 30)) := by go_grown
 have hw := implWalked ps 1 xs n v xv _ hl hp (readsP_below hv b0) hx hn (reads2_below hxv b0) hcap
 obtain ⟨xo, xc, rfl, _⟩ := hxv
 obtain ⟨bb, hbb⟩ : ∃ bb, (walkA 1 ps xs n).isSome = bb := ⟨_, rfl⟩
 have HBB : Hid ((walkA 1 ps xs n).isSome = bb) := hbb
 rw [hbb]
 clear hbb hcap
 go_enter Try.func36, Try.ntmps36
 go_wp2_with fail
 go_at_call 64
 refine hw.mono ?_
 rintro e w1 ⟨⟨pv, b, rfl, hno, hyes⟩, b1⟩
 have HB : Hid (b = bb) := by
  show b = bb
  rw [← HBB.out]
  cases h : walkA 1 ps xs n with
  | none => exact hno (.inr h)
  | some s => exact (hyes s (.inl rfl) h).1
 clear hno hyes hw
 go_wp2_with fail
 go_ret
 exact ⟨by rw [HB.out]; rfl, b0.trans (b1.mono b0.size)⟩

theorem implHolding (ps : List (List Stm)) (c : Int) (xs : List Int) (n : Nat) (v xv : Value) (w : World) (hl : ps.length ≤ maxLen) (hp : ∀ p ∈ ps, p.length ≤ maxLen) (hv : ReadsP w v ps)
 (hx : xs.length = 2 * n) (hn : n ≤ maxLen) (hxv : Reads2 w xv n (ints xs)) (hcap : ∀ a c', xv = .slice a n c' → n ≤ c') :
 Calls Try.prog 34 #[.agg #[v], .int .i64 c, xv] w fun e w' => e = .returned (.int .i64 (holdA c ps xs n)) ∧ Below w.heap.size w w' := by
 have b0 : Below w.heap.size w (w.alloc (.cells #[v] 30)) := by go_grown
 have hw := implWalked ps c xs n v xv _ hl hp (readsP_below hv b0) hx hn (reads2_below hxv b0) hcap
 obtain ⟨A, hA⟩ : ∃ A, holdA c ps xs n = A := ⟨_, rfl⟩
 have HA : Hid (holdA c ps xs n = A) := hA
 rw [hA]
 obtain ⟨xo, xc, rfl, _⟩ := hxv
 clear hA hcap
 go_enter Try.func34, Try.ntmps34
 go_wp2_with fail
 go_at_call 64
 refine hw.mono ?_
 rintro e w1 ⟨⟨pv, b, rfl, hno, hyes⟩, b1⟩
 have BB : Hid (Below w.heap.size w w1) := b0.trans (b1.mono b0.size)
 clear b1 hw
 by_cases hc : c = 1 ∨ c = 2
 · cases h : walkA c ps xs n with
   | none =>
    have HA3 : Hid (A = -1) := by show A = -1; rw [← HA.out]; unfold holdA; rw [if_pos hc, h]
    obtain rfl := hno (.inr h)
    clear hno hyes h HA hc
    go_wp2_with fail
    go_ret
    exact ⟨by rw [HA3.out]; rfl, BB.out⟩
   | some s =>
    obtain ⟨rfl, B, rfl, _, cv, hblk, _⟩ := hyes s hc h
    have HA3 : Hid (A = s.h) := by show A = s.h; rw [← HA.out]; unfold holdA; rw [if_pos hc, h]
    obtain ⟨⟨d0, d1, d2, d3, d4, d5⟩, _⟩ := wk_cells hblk
    clear hno hyes h HA hblk hc
    go_wp2_with fail
    go_ret
    exact ⟨by rw [HA3.out]; rfl, BB.out⟩
 · have HA3 : Hid (A = -1) := by show A = -1; rw [← HA.out]; unfold holdA; rw [if_neg hc]
   obtain rfl := hno (.inl hc)
   clear hno hyes HA hc
   go_wp2_with fail
   go_ret
   exact ⟨by rw [HA3.out]; rfl, BB.out⟩

end Go.Proofs.Ytnjbihfceckpfaa

/-
 Chapter 11, mathematics: the least sets at the entries; the program's way to them by what is new (no dump is spoken of).
-/
namespace Go.Proofs.Ytnjbihfceckpfaa
open Go.RowKit
set_option linter.unusedVariables false
set_option maxHeartbeats 1000000

/-- What is in a and not in b. -/
def andN (a b : Int) : Int := bits .andNot .i64 a b

theorem andN_nat (a b : Nat) (ha : a < 2 ^ 7) (hb : b < 2 ^ 7) : andN (a : Int) (b : Int) = ((a &&& (2 ^ 64 - (b + 1)) : Nat) : Int) := by
 have hx : a &&& (2 ^ 64 - (b + 1)) < 2 ^ 63 := Nat.lt_of_le_of_lt Nat.and_le_left (by omega)
 show IntKind.i64.wrap ((BitVec.ofInt 64 (a : Int) &&& ~~~ BitVec.ofInt 64 (b : Int)).toNat : Int) = _
 rw [BitVec.toNat_and, BitVec.toNat_not, ofInt_i64 a (by omega), ofInt_i64 b (by omega)]
 have e : 2 ^ 64 - 1 - b = 2 ^ 64 - (b + 1) := by omega
 rw [e]
 exact wrap_nat _ hx

theorem andN_small {a b : Int} (ha : Small a) (hb : Small b) : Small (andN a b) := by
 obtain ⟨x, rfl, hx⟩ := small_nat ha
 obtain ⟨y, rfl, hy⟩ := small_nat hb
 rw [andN_nat x y hx hy]
 have : x &&& (2 ^ 64 - (y + 1)) ≤ x := Nat.and_le_left
 constructor <;> omega

theorem bit_andN {a b : Int} (ha : Small a) (hb : Small b) (t : Nat) : bit (andN a b) t = (bit a t && !bit b t) := by
 obtain ⟨x, rfl, hx⟩ := small_nat ha
 obtain ⟨y, rfl, hy⟩ := small_nat hb
 rw [andN_nat x y hx hy]
 unfold bit
 simp only [Int.toNat_natCast]
 rw [Nat.testBit_and, Nat.testBit_two_pow_sub_succ (by omega)]
 by_cases h : t < 64
 · simp [h]
 · have : x.testBit t = false := Nat.testBit_lt_two_pow (Nat.lt_of_lt_of_le hx (Nat.pow_le_pow_right (by omega) (by omega)))
   simp [this]

theorem Sub.refl (x : Int) : Sub x x := fun _ h => h
theorem Sub.trans {x y z : Int} (h : Sub x y) (k : Sub y z) : Sub x z := fun t ht => k t (h t ht)
theorem sub_zero (x : Int) : Sub 0 x := fun t h => by rw [bit_zero] at h; cases h
theorem sub_lor_l {x y : Int} (hx : Small x) (hy : Small y) : Sub x (lor x y) := fun t h => by rw [bit_lor hx hy, h]; rfl
theorem sub_lor_r {x y : Int} (hx : Small x) (hy : Small y) : Sub y (lor x y) := fun t h => by rw [bit_lor hx hy, h, Bool.or_true]
theorem lor_sub {x y z : Int} (hx : Small x) (hy : Small y) (h : Sub x z) (k : Sub y z) : Sub (lor x y) z := fun t ht => by
 rw [bit_lor hx hy, Bool.or_eq_true] at ht
 rcases ht with ht | ht
 · exact h t ht
 · exact k t ht
theorem img_mono {rs : List Int} (hr : Smalls rs) {s t : Int} (h : Sub s t) : Sub (img rs s) (img rs t) := fun b hb => by
 obtain ⟨i, hi, h1, h2⟩ := (bit_img hr s b).1 hb
 exact (bit_img hr t b).2 ⟨i, hi, h i h1, h2⟩
theorem small0 : Small 0 := ⟨by decide, by decide⟩
theorem start_small {c : Int} (hc : c = 1 ∨ c = 2) : Small (startAns c) := by
 rcases hc with rfl | rfl <;> exact ⟨by decide, by decide⟩

/-- What goes in at a call: out of E at the entry of i, by statement k. -/
def goesIn (c : Int) (I : Nat → Nat → List Int) (E : List Int) (i k : Nat) : Int := img (enterAns c) (img (I i k) (E.getD i 0))

def GoodI (ps : List (List Stm)) (I : Nat → Nat → List Int) : Prop := ∀ i (hi : i < ps.length) k, k < ps[i].length → Smalls (I i k)
def SmallN (n : Nat) (E : List Int) : Prop := ∀ i, i < n → Small (E.getD i 0)
def SubE (n : Nat) (E F : List Int) : Prop := ∀ i, i < n → Sub (E.getD i 0) (F.getD i 0)

/-- E has Start, and what goes in at each call. -/
def CloE (c : Int) (ps : List (List Stm)) (I : Nat → Nat → List Int) (E : List Int) : Prop :=
 Sub (startAns c) (E.getD 0 0) ∧ ∀ i (hi : i < ps.length) k (hk : k < ps[i].length), ps[i][k].k = 8 → Sub (goesIn c I E i k) (E.getD ps[i][k].y.toNat 0)
def LowE (c : Int) (ps : List (List Stm)) (I : Nat → Nat → List Int) (E : List Int) : Prop := ∀ F, SmallN ps.length F → CloE c ps I F → SubE ps.length E F

structure IsEnt (c : Int) (ps : List (List Stm)) (I : Nat → Nat → List Int) (E : List Int) : Prop where
 small : SmallN ps.length E
 clo : CloE c ps I E
 low : LowE c ps I E

theorem IsEnt.uniq {c : Int} {ps : List (List Stm)} {I : Nat → Nat → List Int} {E F : List Int} (h : IsEnt c ps I E) (k : IsEnt c ps I F) {i : Nat} (hi : i < ps.length) : E.getD i 0 = F.getD i 0 :=
 sub_eq (h.small i hi) (k.small i hi) (h.low F k.small k.clo i hi) (k.low E h.small h.clo i hi)

theorem goesIn_small {c : Int} (hc : c = 1 ∨ c = 2) (I : Nat → Nat → List Int) (E : List Int) (i k : Nat) : Small (goesIn c I E i k) := img_small (enter_smalls hc) _

theorem goesIn_mono {c : Int} (hc : c = 1 ∨ c = 2) {ps : List (List Stm)} {I : Nat → Nat → List Int} (hI : GoodI ps I) {E F : List Int} {i : Nat} (hi : i < ps.length) (h : Sub (E.getD i 0) (F.getD i 0)) {k : Nat} (hk : k < ps[i].length) : Sub (goesIn c I E i k) (goesIn c I F i k) :=
 img_mono (enter_smalls hc) (img_mono (hI i hi k hk) h)

theorem call_y {ps : List (List Stm)} (hp : CanP ps) {i : Nat} (hi : i < ps.length) {k : Nat} (hk : k < ps[i].length) (h8 : ps[i][k].k = 8) : ∃ y : Nat, ps[i][k].y = y ∧ y < ps.length := ((hp i hi).2 _ (List.getElem_mem hk)).y h8

theorem getD_setI {E : List Int} {y : Nat} (hy : y < E.length) (x : Int) (i : Nat) : (E.set y x).getD i 0 = if i = y then x else E.getD i 0 := by
 by_cases e : i = y
 · subst e; simp [List.getD, hy]
 · rw [if_neg e]; simp [List.getD, List.getElem?_set_ne (fun h => e h.symm)]

/-- A state on the way. -/
structure EntS (c : Int) (ps : List (List Stm)) (I : Nat → Nat → List Int) (E : List Int) : Prop where
 len : E.length = ps.length
 small : SmallN ps.length E
 start : Sub (startAns c) (E.getD 0 0)
 low : LowE c ps I E

theorem EntS.begin {c : Int} (hc : c = 1 ∨ c = 2) {ps : List (List Stm)} {I : Nat → Nat → List Int} (h : 1 ≤ ps.length) : EntS c ps I ((List.replicate ps.length 0).set 0 (startAns c)) := by
 have hg : ∀ i, ((List.replicate ps.length (0 : Int)).set 0 (startAns c)).getD i 0 = if i = 0 then startAns c else 0 := fun i => by
  rw [getD_setI (by simp; omega)]
  split
  · rfl
  · rw [List.getD_eq_getElem?_getD, List.getElem?_replicate]; split <;> rfl
 refine ⟨by simp, fun i hi => ?_, ?_, fun F hF hcl i hi => ?_⟩
 · rw [hg]; split
   · exact start_small hc
   · exact small0
 · rw [hg]; exact Sub.refl _
 · rw [hg]; split
   · rename_i e; subst e; exact hcl.1
   · exact sub_zero _

theorem EntS.goes {c : Int} (hc : c = 1 ∨ c = 2) {ps : List (List Stm)} {I : Nat → Nat → List Int} (hI : GoodI ps I) {E : List Int} (h : LowE c ps I E) {i : Nat} (hi : i < ps.length) {k : Nat} (hk : k < ps[i].length) (h8 : ps[i][k].k = 8) {F : List Int} (hF : SmallN ps.length F) (hcl : CloE c ps I F) :
 Sub (goesIn c I E i k) (F.getD ps[i][k].y.toNat 0) := (goesIn_mono hc hI hi (h F hF hcl i hi) hk).trans (hcl.2 i hi k hk h8)

theorem EntS.put {c : Int} (hc : c = 1 ∨ c = 2) {ps : List (List Stm)} (hp : CanP ps) {I : Nat → Nat → List Int} (hI : GoodI ps I) {E : List Int} (h : EntS c ps I E) {i : Nat} (hi : i < ps.length) {k : Nat} (hk : k < ps[i].length) (h8 : ps[i][k].k = 8) {y : Nat} (hy : ps[i][k].y = y) (hyl : y < ps.length) :
 EntS c ps I (E.set y (lor (E.getD y 0) (goesIn c I E i k))) := by
 have hyE : y < E.length := by rw [h.len]; exact hyl
 have gs := goesIn_small hc I E i k
 refine ⟨by simp [h.len], fun j hj => ?_, ?_, fun F hF hcl j hj => ?_⟩
 · rw [getD_setI hyE]; split
   · exact lor_small (h.small y hyl) gs
   · exact h.small j hj
 · rw [getD_setI hyE]; split
   · rename_i e; subst e; exact h.start.trans (sub_lor_l (h.small 0 hyl) gs)
   · exact h.start
 · rw [getD_setI hyE]; split
   · rename_i e; subst e
     refine lor_sub (h.small j hj) gs (h.low F hF hcl j hj) ?_
     have := EntS.goes hc hI h.low hi hk h8 hF hcl
     rw [hy] at this
     exact this
   · exact h.low F hF hcl j hj

theorem mem_small {n : Nat} {E : List Int} (hl : E.length = n) (h : SmallN n E) : ∀ y ∈ E, y ≤ 127 := fun y hy => by
 obtain ⟨j, hj, rfl⟩ := List.getElem_of_mem hy
 have := h j (by omega)
 rw [List.getD_eq_getElem?_getD, List.getElem?_eq_getElem hj] at this
 exact this.2

theorem room_set {n : Nat} {E : List Int} (hl : E.length = n) (h : SmallN n E) {y : Nat} (hy : y < n) {x : Int} (hx : Small x) (hs : Sub (E.getD y 0) x) (hn : ¬ x = E.getD y 0) : room (E.set y x) < room E := by
 have hg := fun i => getD_setI (E := E) (y := y) (by omega) x i
 refine room_lt (by simp) (fun z hz => ?_) (fun j => ?_) (fun e => hn ?_)
 · rcases List.mem_or_eq_of_mem_set hz with h1 | h1
   · exact mem_small hl h z h1
   · rw [h1]; exact hx.2
 · rw [hg]; split
   · rename_i e; subst e; exact sub_le (h j hy) hx hs
   · exact Int.le_refl _
 · have := hg y
   rw [if_pos rfl, ← e] at this
   exact this.symm

/-- One pass of the specification's loop: m pairs are gone through (those of which Done speaks). -/
structure PsE (c : Int) (ps : List (List Stm)) (I : Nat → Nat → List Int) (E0 : List Int) (Done : Nat → Nat → Prop) (ag : Bool) (E : List Int) : Prop where
 s : EntS c ps I E
 st : (ag = false ∧ E = E0 ∧ ∀ i (hi : i < ps.length) k (hk : k < ps[i].length), Done i k → ps[i][k].k = 8 → Sub (goesIn c I E i k) (E.getD ps[i][k].y.toNat 0)) ∨ (ag = true ∧ room E < room E0)

theorem PsE.begin {c : Int} {ps : List (List Stm)} {I : Nat → Nat → List Int} {E : List Int} (h : EntS c ps I E) : PsE c ps I E (fun _ _ => False) false E := ⟨h, .inl ⟨rfl, rfl, fun _ _ _ _ h => h.elim⟩⟩

theorem PsE.skip {c : Int} {ps : List (List Stm)} {I : Nat → Nat → List Int} {E0 E : List Int} {Done Done' : Nat → Nat → Prop} {ag : Bool} (h : PsE c ps I E0 Done ag E)
 (hd : ∀ i (hi : i < ps.length) k (hk : k < ps[i].length), Done' i k → Done i k ∨ (ps[i][k].k = 8 → Sub (goesIn c I E i k) (E.getD ps[i][k].y.toNat 0))) : PsE c ps I E0 Done' ag E := by
 refine ⟨h.s, ?_⟩
 rcases h.st with ⟨h1, h2, h3⟩ | h1
 · exact .inl ⟨h1, h2, fun i hi k hk hD h8 => (hd i hi k hk hD).elim (fun h => h3 i hi k hk h h8) (fun h => h h8)⟩
 · exact .inr h1

theorem PsE.put {c : Int} (hc : c = 1 ∨ c = 2) {ps : List (List Stm)} (hp : CanP ps) {I : Nat → Nat → List Int} (hI : GoodI ps I) {E0 E : List Int} {Done Done' : Nat → Nat → Prop} {ag : Bool} (h : PsE c ps I E0 Done ag E) {i : Nat} (hi : i < ps.length) {k : Nat} (hk : k < ps[i].length) (h8 : ps[i][k].k = 8) {y : Nat} (hy : ps[i][k].y = y) (hyl : y < ps.length)
 (hn : ¬ lor (E.getD y 0) (goesIn c I E i k) = E.getD y 0) : PsE c ps I E0 Done' true (E.set y (lor (E.getD y 0) (goesIn c I E i k))) := by
 refine ⟨h.s.put hc hp hI hi hk h8 hy hyl, .inr ⟨rfl, ?_⟩⟩
 have hs := h.s.small y hyl
 have hg := goesIn_small hc I E i k
 have h1 := room_set h.s.len h.s.small hyl (lor_small hs hg) (sub_lor_l hs hg) hn
 rcases h.st with ⟨_, rfl, _⟩ | ⟨_, h2⟩
 · exact h1
 · omega

theorem PsE.done {c : Int} {ps : List (List Stm)} {I : Nat → Nat → List Int} {E0 E : List Int} {Done : Nat → Nat → Prop} (h : PsE c ps I E0 Done false E) (hd : ∀ i (hi : i < ps.length) k (hk : k < ps[i].length), Done i k) : IsEnt c ps I E := by
 rcases h.st with ⟨_, _, h3⟩ | ⟨h1, _⟩
 · exact ⟨h.s.small, ⟨h.s.start, fun i hi k hk h8 => h3 i hi k hk (hd i hi k hk) h8⟩, h.s.low⟩
 · cases h1

theorem sub_of_lor {x y : Int} (hx : Small x) (hy : Small y) (h : lor x y = x) : Sub y x := by
 have := sub_lor_r hx hy
 rwa [h] at this

theorem ent_some {c : Int} (hc : c = 1 ∨ c = 2) {ps : List (List Stm)} (hp : CanP ps) (h1 : 1 ≤ ps.length) {I : Nat → Nat → List Int} (hI : GoodI ps I) : ∃ E, E.length = ps.length ∧ IsEnt c ps I E := by
 have main : ∀ n E, EntS c ps I E → room E = n → ∃ E, E.length = ps.length ∧ IsEnt c ps I E := by
  intro n
  induction n using Nat.strongRecOn with
  | ind n ih =>
   intro E h hn
   by_cases hcl : CloE c ps I E
   · exact ⟨E, h.len, h.small, hcl, h.low⟩
   · have : ∃ (i : Nat) (hi : i < ps.length) (k : Nat) (hk : k < ps[i].length), ps[i][k].k = 8 ∧ ¬ Sub (goesIn c I E i k) (E.getD ps[i][k].y.toNat 0) :=
      Classical.byContradiction fun hno => hcl ⟨h.start, fun i hi k hk h8 => Classical.byContradiction fun hs => hno ⟨i, hi, k, hk, h8, hs⟩⟩
     obtain ⟨i, hi, k, hk, h8, hs⟩ := this
     obtain ⟨y, hy, hyl⟩ := call_y hp hi hk h8
     have hg := goesIn_small hc I E i k
     have P := (PsE.begin h).put hc hp hI (Done' := fun _ _ => False) hi hk h8 hy hyl (fun e => hs (by
      rw [hy]; exact sub_of_lor (h.small y hyl) hg e))
     rcases P.st with ⟨e, _⟩ | ⟨_, e⟩
     · cases e
     · exact ih _ (by omega) _ P.s rfl
 exact main _ _ (EntS.begin hc h1) rfl

end Go.Proofs.Ytnjbihfceckpfaa
