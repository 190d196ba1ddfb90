/-
  Chapter 6, the program's side: Image, ofTwo, Compose, Join, Within, Unit.
-/
import Derived.Test.YtnjbihfceckpfaaImplRel
import Derived.Test.YtnjbihfceckpfaaRegionInv
namespace Go.Proofs.Ytnjbihfceckpfaa
open Go.RowKit
set_option linter.unusedVariables false
set_option maxHeartbeats 1000000

theorem wpList_arrayAt {ops : Array Oper} {rest : List Oper} {op : Oper} {a : Act} {w : World} {Q : Exit → Act → World → Prop} (hgd : op.guard = none) (x : Operand) (ho : op.op = .sliceToArrayPointer 64 x)
    (g off cap : Nat) (hx : a.eval x = .slice (some ⟨g, off, none⟩) 7 cap)
    (h : wpList Try.prog ops Q rest (a.put op.dst (.pointer (some ⟨g, off, none⟩))) w) : wpList Try.prog ops Q (op :: rest) a w := by
  refine wpList_plain hgd fun K hK => ?_
  unfold Oper.wp execOp
  simp only [ho, hx, Sem.run_bind, run_arrayAt w 64 2 7 (some ⟨g, off, none⟩) 7 cap relUnd (by omega), Result.andThen_ok]
  exact hK _ _ h

theorem lor_comm {a b : Int} (ha : Small a) (hb : Small b) : lor a b = lor b a :=
  bit_ext (lor_small ha hb) (lor_small hb ha) (fun t _ => by rw [bit_lor ha hb, bit_lor hb ha, Bool.or_comm])

theorem joi_comm {xs ys : List Int} (hx : Smalls xs) (hy : Smalls ys) : joi xs ys = joi ys xs := by
  refine list7 (by simp [joi, hx.1, hy.1]) (by simp [joi, hx.1, hy.1]) (fun j hj => ?_)
  have h1 : (joi xs ys).getD j 0 = lor (xs.getD j 0) (ys.getD j 0) := by simp [joi, List.getD, hx.1, hy.1, hj]
  have h2 : (joi ys xs).getD j 0 = lor (ys.getD j 0) (xs.getD j 0) := by simp [joi, List.getD, hx.1, hy.1, hj]
  rw [h1, h2, lor_comm (hx.getD j) (hy.getD j)]

theorem implImage (rs : List Int) (s : Int) (v : Value) (w : World) (hl : rs.length ≤ maxLen) (hv : Reads w v (ints rs)) :
    Calls Try.prog 126 #[v, .int .i64 s] w fun e w' => e = .returned (.int .i64 (imageAns rs s)) ∧ Below w.heap.size w w' := by
  cases hr : relOk rs
  · have h1 : imageAns rs s = -1 := by simp [imageAns, hr]
    rw [h1]
    go_enter Try.func126, Try.ntmps126
    go_wp2_with (go_at_call 146; refine (implRelOk rs v w hl hv).mono ?_; rintro e w1 ⟨rfl, b1⟩; simp only [hr])
    go_ret
    exact ⟨rfl, b1⟩
  · cases hs : inB s 0 127
    · have h1 : imageAns rs s = -1 := by simp [imageAns, hs]
      rw [h1]
      go_enter Try.func126, Try.ntmps126
      go_wp2_with (first
        | (go_at_call 146; refine (implRelOk rs v w hl hv).mono ?_; rintro e w1 ⟨rfl, b1⟩; simp only [hr])
        | (go_at_call 137; refine (within _ _ _).mono ?_; rintro e w2 ⟨rfl, rfl⟩; simp only [wiB_inB, hs]))
      go_ret
      exact ⟨rfl, b1⟩
    · have h1 : imageAns rs s = img rs s := by simp [imageAns, hs, hr]
      rw [h1]
      have hsm := small_in.1 hs
      have hrs := relOk_iff.1 hr
      have him := fun W => relImage rs s W hrs hsm
      have h7 := hrs.1
      obtain ⟨g, off, cap, hve, hrg⟩ := reads_range hv h7
      have hro := implRelOk rs v w hl hv
      subst hve
      go_enter Try.func126, Try.ntmps126
      go_wp2_with fail
      go_at_call 146
      refine hro.mono ?_
      rintro e w1 ⟨rfl, b1⟩
      simp only [hr]
      have HRG : Hid _ := range_below hrg b1
      clear hrg
      go_wp2_with (first
        | (go_at_call 137; refine (within _ _ _).mono ?_; rintro e w2 ⟨rfl, rfl⟩; simp only [wiB_inB, hs])
        | refine wpList_arrayAt rfl (.tmp 13) rfl g off cap rfl ?_
        | refine wpList_loadRel rfl (.tmp 14) rfl g off rs rfl h7 HRG.out ?_
        | (go_at_call 115; refine (him _).mono ?_; rintro e w3 ⟨rfl, b3⟩))
      go_ret
      exact ⟨rfl, b1.trans (b3.mono b1.size)⟩

/-- What ofTwo's region has, operation by operation. -/
def OFct (va vb : Value) (g off g' off' f : Nat) (xs ys zs : List Int) (base : Nat) (l : Nat → Bool) (x7 x16 x17 x18 x19 x20 x21 x22 x23 : Value) (wr : World) : Prop :=
  (l 0 = true → x16 = .func (.func f) #[] #[]) ∧ (l 1 = true → x17 = va) ∧ (l 2 = true → x18 = .pointer (some ⟨g, off, none⟩)) ∧ (l 3 = true → x19 = relV xs) ∧
  (l 4 = true → x20 = vb) ∧ (l 5 = true → x21 = .pointer (some ⟨g', off', none⟩)) ∧ (l 6 = true → x22 = relV ys) ∧ (l 7 = true → x23 = relV zs) ∧
  (l 8 = true → ∃ B, x7 = .pointer (some ⟨B, 0, none⟩) ∧ base ≤ B ∧ ∃ L : List Int, L.length = 7 ∧ RelAt wr B L ∧ (l 9 = true → L = zs)) ∧ (l 9 = true → l 8 = true)

/-- The invariant of that region. -/
def OInv (va vb vf : Value) (g off g' off' f : Nat) (xs ys zs : List Int) (w : World) (l : Nat → Bool) (a : Act) (wr : World) : Prop :=
  ∃ y3 y4 y5 y6 y8 y9 y10 y11 y12 y13 y14 y15 y24 x7 x16 x17 x18 x19 x20 x21 x22 x23 : Value,
    a = { tmps := List.toArray (va :: vb :: vf :: y3 :: y4 :: y5 :: y6 :: x7 :: y8 :: y9 :: y10 :: y11 :: y12 :: y13 :: y14 :: y15 :: x16 :: x17 :: x18 :: x19 :: x20 :: x21 :: x22 :: x23 :: y24 :: []), defers := [] } ∧
    Below w.heap.size w wr ∧ OFct va vb g off g' off' f xs ys zs w.heap.size l x7 x16 x17 x18 x19 x20 x21 x22 x23 wr

theorem implUnit (w : World) : Calls Try.prog 142 #[] w fun e w' => ∃ a, e = .returned a ∧ w'.ownsRow w.heap.size 64 1 a unitL.length (ints unitL) ∧ Below w.heap.size w w' := by
  have hb0 : Below w.heap.size w (w.alloc (.cells (ints (List.replicate 7 0)).toArray 64)) := by go_grown
  have B0 : RelAt (w.alloc (.cells (ints (List.replicate 7 0)).toArray 64)) w.heap.size (List.replicate 7 0) := heap_alloc_new w _
  go_enter Try.func142, Try.ntmps142
  go_wp2
  rw [zeros7]
  go_loopw [3] (fun i wr => ∃ (k : Nat), k ≤ 7 ∧ i = .int .i64 k ∧ RelAt wr w.heap.size (unitL.take k ++ List.replicate (7 - k) 0) ∧ Below w.heap.size w wr) (fun i _ => 7 - (intOf i).toNat)
  case atStart => exact ⟨0, by omega, rfl, B0, hb0⟩
  case round =>
    obtain ⟨k, hk, rfl, b0, hb⟩ := hrel
    clear B0 hb0
    by_cases hlt : k < 7
    · have hlt' : (k : Int) < 7 := by omega
      have hpl : (unitL.take k ++ List.replicate (7 - k) (0 : Int)).length = 7 := by simp [unitL]; omega
      obtain ⟨c0, f0⟩ := b0.cell k (by omega)
      have hset : ∀ x, x = (2 : Int) ^ k → (unitL.take k ++ List.replicate (7 - k) (0 : Int)).set k x = unitL.take (k + 1) ++ List.replicate (7 - (k + 1)) 0 := by
        rintro x rfl
        have hc : k = 0 ∨ k = 1 ∨ k = 2 ∨ k = 3 ∨ k = 4 ∨ k = 5 ∨ k = 6 := by omega
        rcases hc with rfl | rfl | rfl | rfl | rfl | rfl | rfl <;> rfl
      have hpow : (1 : Int) * 2 ^ k ≤ 64 ∧ (1 : Int) ≤ 2 ^ k := by
        have hc : k = 0 ∨ k = 1 ∨ k = 2 ∨ k = 3 ∨ k = 4 ∨ k = 5 ∨ k = 6 := by omega
        rcases hc with rfl | rfl | rfl | rfl | rfl | rfl | rfl <;> decide
      have HS : Hid _ := hset
      have H0 : Hid _ := b0
      clear hset b0
      go_wp2
      go_roundw
      case rel =>
        refine ⟨k + 1, by omega, by go_num, ?_, hb.setCell (Nat.le_refl _) _⟩
        rw [← HS.out _ rfl]
        exact RelAt.set H0.out k (2 ^ k)
      case measure => simp [intOf]; omega
    · have hkk : k = 7 := by omega
      subst hkk
      have hR : RelAt wr w.heap.size unitL := b0
      have HR : Hid _ := hR
      clear hR b0
      go_wp2
      go_ret
      exact ⟨_, rfl, RelAt.own HR.out (Nat.le_refl _) rfl, hb⟩

/-- What Within's region has, operation by operation. -/
def WFct (va vb : Value) (g off g' off' : Nat) (xs ys : List Int) (l : Nat → Bool) (x13 x14 x15 x16 x17 x18 x19 x20 x21 x22 x23 x4 : Value) : Prop :=
  (l 0 = true → x13 = vb) ∧ (l 1 = true → x14 = .pointer (some ⟨g', off', none⟩)) ∧ (l 2 = true → x15 = relV ys) ∧ (l 3 = true → x16 = va) ∧ (l 4 = true → x17 = .pointer (some ⟨g, off, none⟩)) ∧ (l 5 = true → x18 = relV xs) ∧ (l 6 = true → x19 = relV (joi ys xs)) ∧ (l 7 = true → x20 = vb) ∧ (l 8 = true → x21 = .pointer (some ⟨g', off', none⟩)) ∧ (l 9 = true → x22 = relV ys) ∧ (l 10 = true → x23 = .bool (decide (joi ys xs = ys))) ∧ (l 11 = true → x4 = .bool (decide (joi ys xs = ys)))

/-- The invariant of that region. -/
def WInv (va vb : Value) (g off g' off' : Nat) (xs ys : List Int) (w : World) (l : Nat → Bool) (a : Act) (wr : World) : Prop :=
  ∃ y2 y3 y5 y6 y7 y8 y9 y10 y11 y12 x13 x14 x15 x16 x17 x18 x19 x20 x21 x22 x23 x4 : Value,
    a = { tmps := List.toArray (va :: vb :: y2 :: y3 :: x4 :: y5 :: y6 :: y7 :: y8 :: y9 :: y10 :: y11 :: y12 :: x13 :: x14 :: x15 :: x16 :: x17 :: x18 :: x19 :: x20 :: x21 :: x22 :: x23 :: []), defers := [] } ∧
    Below w.heap.size w wr ∧ WFct va vb g off g' off' xs ys l x13 x14 x15 x16 x17 x18 x19 x20 x21 x22 x23 x4


end Go.Proofs.Ytnjbihfceckpfaa
