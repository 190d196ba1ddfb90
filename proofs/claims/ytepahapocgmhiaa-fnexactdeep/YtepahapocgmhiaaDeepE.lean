/-
  Chapter 1: deep of a node.
-/
import Derived.Test.YtepahapocgmhiaaDeepS
import Derived.Test.YtepahapocgmhiaaNodeE
namespace Go.Proofs.Ytepahapocgmhiaa
open Go.RowKit
set_option linter.unusedVariables false
set_option linter.unusedSimpArgs false
set_option maxHeartbeats 4000000
set_option maxRecDepth 20000

theorem leafDeep (cs : Array Value) (w : World) : Calls Try.prog 96 #[.agg cs] w fun e w' => e = .returned (.int .i64 1) ∧ Below w.heap.size w w' := by
  have hB : Below w.heap.size w (w.alloc (.cells cs 91)) := Below.alloc (Below.refl _ _) (Nat.le_refl _) _
  go_enter Try.func96, Try.ntmps96
  go_wp2
  go_ret
  exact ⟨rfl, hB⟩

/-- listNode.deep, for items of d levels. -/
def LDp (d : Nat) : Prop := ∀ (its : List (Val d)) (ua : Option Addr) (n uc : Nat) (F : Nat → Prop) (gk : Nat) (deep : Int) (w : World), its.length = n → n ≤ 100 → cntL its ≤ 100 → 0 ≤ deep → deep ≤ 6 → (∀ x ∈ its, RightV d x deep) → (∀ b, F b → b < w.heap.size) → gk ≤ w.heap.size → RowN w F (IsN d w F gk) ua its →
  Calls Try.prog 92 #[.agg #[.slice ua n uc]] w fun e w' => ∃ B : Nat, e = .returned (.int .i64 (B : Int)) ∧ B = deepL its + 1 ∧ Below w.heap.size w w'

theorem listDeep (d : Nat) (ih : ∀ d', d = d' + 1 → LDp d') : LDp d := by
  intro its ua n uc F gk deep w hn hn100 hc100 hd0 hd6 hr hF hgk hrow
  obtain ⟨W0, hW0⟩ : ∃ W, w.alloc (.cells #[.slice ua n uc] 86) = W := ⟨_, rfl⟩
  have hB : Below w.heap.size w W0 := by rw [← hW0]; go_grown
  have hbox : W0.heap[w.heap.size]? = some (.cells #[.slice ua n uc] 86 (0, 0)) := by rw [← hW0]; exact heap_alloc_new w _
  obtain ⟨q0, q1⟩ := one_inV hbox
  have HN : Hid (its.length = n) := hn
  have HR : Hid _ := hr
  have HF : Hid _ := hF
  have HROW : Hid _ := hrow
  have HB : Hid (Below w.heap.size w W0) := hB
  have HC : Hid (cntL its ≤ 100) := hc100
  clear hn hr hF hrow hB hbox hc100
  go_enter Try.func92, Try.ntmps92
  go_wp2_with fail
  clear hW0 q0 q1
  go_loopw [3, 9] (fun s i wr => ∃ j A : Nat, j ≤ n ∧ i = .int .i64 (j : Int) ∧ s = .int .i64 (A : Int) ∧ A = deepL (its.take j) ∧ Below w.heap.size w wr) (fun _ i _ => n - (intOf i).toNat)
  case atStart => exact ⟨0, 0, Nat.zero_le _, rfl, rfl, by simp [deepL], HB.out⟩
  case round =>
    obtain ⟨j, A, hj, rfl, rfl, hA, hbr⟩ := hrel
    have HA : Hid (A = deepL (its.take j)) := hA
    have HAL : Hid ((A : Int) ≤ deep) := by show (A : Int) ≤ deep; rw [hA]; exact deepL_mono j hd0 HR.out
    clear hA
    obtain ⟨wa, hwa⟩ : ∃ z, z = wr := ⟨_, rfl⟩
    subst hwa
    have HBR : Hid (Below w.heap.size w wa) := hbr
    clear hbr
    by_cases hlt : j < n
    · have hlt' : (j : Int) < (n : Int) := by omega
      have hjl : j < its.length := by have := HN.out; omega
      obtain ⟨x, hx⟩ : ∃ x, its[j] = x := ⟨_, rfl⟩
      have hxj : its[j]? = some x := by rw [← hx]; simp [hjl]
      obtain ⟨b, off, v, rfl, hFb, hcell, his⟩ := HROW.out j x hxj
      have hrx : RightV d x deep := HR.out x (by rw [← hx]; exact List.getElem_mem hjl)
      have htk : deepL (its.take (j + 1)) = max (deepL (its.take j)) (deepV d x) := by rw [deepL_take its j hjl, hx]
      have hcx : cntV d x ≤ 100 := by
        have h1 := cntL_take its j hjl
        have h2 := cntL_le its (j + 1)
        rw [hx] at h1
        have := HC.out; omega
      have HTK : Hid _ := htk
      have hcw := (World.cell?_of_block (HBR.out.block b (HF.out b hFb))).trans hcell
      have his2 : IsN d wa F gk v x := his.keep (fun k hk => HBR.out.block k (HF.out k hk)) (fun k hk => HBR.out.block k (by omega)) (fun _ h => h)
      clear hx hxj hjl htk hcell his
      cases d with
      | zero => exact hrx.elim
      | succ d =>
        obtain ⟨k, nn, t, its', ks⟩ := x
        obtain ⟨i1, i2, i3, i4, i5, i6⟩ := his2
        obtain ⟨hdp, hloc, hall⟩ := hrx
        have hcx2 : 1 + cntL its' ≤ 100 := hcx
        have HAB : Hid (max A (deepL its' + 1) = deepL (its.take (j + 1))) := by
          show max A (deepL its' + 1) = _
          rw [HTK.out, ← HA.out]; rfl
        have HLO : Hid (1 ≤ k ∧ k ≤ 6 ∧ (k < 5 → its' = [])) := ⟨hloc.lo, hloc.hi, fun h => List.eq_nil_of_length_eq_zero (hloc.hm h)⟩
        clear hloc hcx
        have leaf : ∀ (cs : Array Value) (hits : its' = []), Calls Try.prog 96 #[.agg cs] wa fun e w' => ∃ B : Nat, e = .returned (.int .i64 (B : Int)) ∧ B = deepL its' + 1 ∧ Below wa.heap.size wa w' := fun cs hits => by
          subst hits
          exact (leafDeep cs wa).mono fun e w' ⟨h1, h2⟩ => ⟨1, h1, rfl, h2⟩
        have hmx : ∀ B : Nat, max (A : Int) (B : Int) = ((max A B : Nat) : Int) := fun B => by omega
        obtain e | e | e | e | e | e : k = 1 ∨ k = 2 ∨ k = 3 ∨ k = 4 ∨ k = 5 ∨ k = 6 := by have := HLO.out; omega
        · obtain rfl := i1 e
          have hits := HLO.out.2.2 (by omega)
          clear i1 i2 i3 i4 i5 i6 e
          go_wp2_with fail
          go_at_call 96
          refine (leaf _ hits).mono ?_
          rintro r wb ⟨B, rfl, hBe, hb9⟩
          have HNX : Hid (max A B = deepL (its.take (j + 1))) := by show max A B = _; rw [hBe]; exact HAB.out
          have HMX := hmx B
          clear hBe hmx
          clear leaf hits
          go_wp2
          go_roundw
          case rel => exact ⟨j + 1, max A B, by omega, by go_num, by first | go_num | simp [HMX], HNX.out, low_step HBR.out hb9⟩
          case measure => exact meas_stepB hlt
        · obtain rfl := i2 e
          have hits := HLO.out.2.2 (by omega)
          clear i1 i2 i3 i4 i5 i6 e
          go_wp2_with fail
          go_at_call 96
          refine (leaf _ hits).mono ?_
          rintro r wb ⟨B, rfl, hBe, hb9⟩
          have HNX : Hid (max A B = deepL (its.take (j + 1))) := by show max A B = _; rw [hBe]; exact HAB.out
          have HMX := hmx B
          clear hBe hmx
          clear leaf hits
          go_wp2
          go_roundw
          case rel => exact ⟨j + 1, max A B, by omega, by go_num, by first | go_num | simp [HMX], HNX.out, low_step HBR.out hb9⟩
          case measure => exact meas_stepB hlt
        · obtain rfl := i3 e
          have hits := HLO.out.2.2 (by omega)
          clear i1 i2 i3 i4 i5 i6 e
          go_wp2_with fail
          go_at_call 96
          refine (leaf _ hits).mono ?_
          rintro r wb ⟨B, rfl, hBe, hb9⟩
          have HNX : Hid (max A B = deepL (its.take (j + 1))) := by show max A B = _; rw [hBe]; exact HAB.out
          have HMX := hmx B
          clear hBe hmx
          clear leaf hits
          go_wp2
          go_roundw
          case rel => exact ⟨j + 1, max A B, by omega, by go_num, by first | go_num | simp [HMX], HNX.out, low_step HBR.out hb9⟩
          case measure => exact meas_stepB hlt
        · obtain rfl := i4 e
          have hits := HLO.out.2.2 (by omega)
          clear i1 i2 i3 i4 i5 i6 e
          go_wp2_with fail
          go_at_call 96
          refine (leaf _ hits).mono ?_
          rintro r wb ⟨B, rfl, hBe, hb9⟩
          have HNX : Hid (max A B = deepL (its.take (j + 1))) := by show max A B = _; rw [hBe]; exact HAB.out
          have HMX := hmx B
          clear hBe hmx
          clear leaf hits
          go_wp2
          go_roundw
          case rel => exact ⟨j + 1, max A B, by omega, by go_num, by first | go_num | simp [HMX], HNX.out, low_step HBR.out hb9⟩
          case measure => exact meas_stepB hlt
        · obtain ⟨va, vc, rfl, hro⟩ := i5 e
          have hll := cntL_len its' _ hall
          have hih := ih d rfl its' va its'.length vc F gk _ wa rfl (by omega) (by omega) (by omega) (by omega) hall (fun b h => Nat.lt_of_lt_of_le (HF.out b h) HBR.out.size) (Nat.le_trans hgk HBR.out.size) hro
          clear i1 i2 i3 i4 i5 i6 e hll leaf
          go_wp2_with fail
          refine hih.mono ?_
          rintro r wb ⟨B, rfl, hBe, hb9⟩
          have HNX : Hid (max A B = deepL (its.take (j + 1))) := by show max A B = _; rw [hBe]; exact HAB.out
          have HMX := hmx B
          clear hBe hih hmx
          go_wp2
          go_roundw
          case rel => exact ⟨j + 1, max A B, by omega, by go_num, by first | go_num | simp [HMX], HNX.out, low_step HBR.out hb9⟩
          case measure => exact meas_stepB hlt
        · obtain ⟨va, vc, ka, kc, rfl, hro, -⟩ := i6 e
          have hll := cntL_len its' _ hall
          have hih := ih d rfl its' va its'.length vc F gk _ wa rfl (by omega) (by omega) (by omega) (by omega) hall (fun b h => Nat.lt_of_lt_of_le (HF.out b h) HBR.out.size) (Nat.le_trans hgk HBR.out.size) hro
          clear i1 i2 i3 i4 i5 i6 e hll leaf
          go_wp2_with fail
          refine hih.mono ?_
          rintro r wb ⟨B, rfl, hBe, hb9⟩
          have HNX : Hid (max A B = deepL (its.take (j + 1))) := by show max A B = _; rw [hBe]; exact HAB.out
          have HMX := hmx B
          clear hBe hih hmx
          go_wp2
          go_roundw
          case rel => exact ⟨j + 1, max A B, by omega, by go_num, by first | go_num | simp [HMX], HNX.out, low_step HBR.out hb9⟩
          case measure => exact meas_stepB hlt
    · obtain rfl : n = j := by omega
      have hnn : ¬ (n : Int) < (n : Int) := by omega
      have hfull : its.take n = its := List.take_of_length_le (by have := HN.out; omega)
      have HE : Hid (A + 1 = deepL its + 1) := by show A + 1 = _; rw [HA.out, hfull]
      have hw9 : IntKind.i64.wrap ((A : Int) + 1) = ((A + 1 : Nat) : Int) := by rw [Int.natCast_add]; exact IntWalk.i64_in _ (by have := HAL.out; omega)
      clear hfull
      go_wp2
      go_ret
      exact ⟨A + 1, rfl, HE.out, HBR.out⟩

theorem allDeep : ∀ d, LDp d
  | 0 => listDeep 0 (fun d' h => by omega)
  | d + 1 => listDeep (d + 1) (fun d' h => (Nat.succ.inj h) ▸ allDeep d)

end Go.Proofs.Ytepahapocgmhiaa
