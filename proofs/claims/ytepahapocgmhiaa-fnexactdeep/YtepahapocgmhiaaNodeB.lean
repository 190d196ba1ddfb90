/-
  Chapter 1: slices.Contains of texts, impl.newMap.
-/
import Derived.Test.YtepahapocgmhiaaNodeA
namespace Go.Proofs.Ytepahapocgmhiaa
open Go.RowKit
set_option linter.unusedVariables false
set_option linter.unusedSimpArgs false
set_option maxHeartbeats 8000000
set_option maxRecDepth 20000

theorem text_neB {a b : ByteArray} (h : a ≠ b) : (a.toList == b.toList) = false := by
  rw [beq_eq_false_iff_ne, ByteArray.toList_eq, ByteArray.toList_eq]
  exact fun e => h (ByteArray.ext (Array.toList_inj.1 e))
theorem meas_stepB {j il : Nat} (h : j < il) : il - (intOf (.int .i64 ((j : Int) + 1))).toNat < il - (intOf (.int .i64 (j : Int))).toNat := by
  simp [intOf]; omega

theorem indexText (ks : List ByteArray) (kl : Nat) (ka : Option Addr) (kc : Nat) (y : ByteArray) (w : World) (hkl : ks.length = kl) (hm : kl ≤ maxLen) (hk : Reads w (.slice ka kl kc) (ks.map .string)) :
    Calls Try.prog 53 #[.slice ka kl kc, .string y] w fun e w' => (∃ r : Int, e = .returned (.int .i64 r) ∧ (0 ≤ r ↔ y ∈ ks)) ∧ w = w' := by
  unfold maxLen at hm
  obtain ⟨ao, cap, e9, hc⟩ := hk
  injection e9 with e1 e2 e3
  subst e1
  have HC : Hid _ := hc
  have HL : Hid (ks.length = kl) := hkl
  clear e2 e3 hc hkl
  go_enter Try.func53, Try.ntmps53
  go_wp2_with fail
  go_loopw [8] (fun i wr => ∃ j : Nat, j ≤ kl ∧ i = .int .i64 (j : Int) ∧ (∀ z ∈ ks.take j, z ≠ y) ∧ w = wr) (fun i _ => kl - (intOf i).toNat)
  case atStart => exact ⟨0, Nat.zero_le _, rfl, by simp, rfl⟩
  case round =>
    obtain ⟨j, hj, rfl, hno, rfl⟩ := hrel
    have HN : Hid (∀ z ∈ ks.take j, z ≠ y) := hno
    clear hno
    by_cases hlt : j < kl
    · have hlt' : (j : Int) < (kl : Int) := by omega
      have hjk : j < ks.length := by have := HL.out; omega
      obtain ⟨tj, htj⟩ : ∃ z, ks[j] = z := ⟨_, rfl⟩
      obtain ⟨b, off, rfl, cj⟩ := HC.out j (.string tj) (by rw [← htj]; simp [hjk])
      have HT : Hid (ks.take (j + 1) = ks.take j ++ [tj]) := by show ks.take (j + 1) = ks.take j ++ [tj]; rw [List.take_succ_eq_append_getElem hjk, htj]
      have HM : Hid (tj ∈ ks) := by show tj ∈ ks; rw [← htj]; exact List.getElem_mem hjk
      clear htj hjk
      by_cases heq : y = tj
      · have heq' : (y.toList == tj.toList) = true := by rw [heq]; exact beq_self_eq_true _
        have HY : Hid (y ∈ ks) := by show y ∈ ks; rw [heq]; exact HM.out
        clear heq
        go_wp2
        go_ret
        exact ⟨⟨_, rfl, ⟨fun _ => HY.out, fun _ => by omega⟩⟩, rfl⟩
      · have heq' : (y.toList == tj.toList) = false := text_neB heq
        have HN2 : Hid (∀ z ∈ ks.take (j + 1), z ≠ y) := fun z hz => by
          rw [HT.out, List.mem_append] at hz
          rcases hz with hz | hz
          · exact HN.out z hz
          · have : z = tj := by simpa using hz
            rw [this]; exact fun e => heq e.symm
        clear heq
        go_wp2
        go_roundw
        case rel => exact ⟨j + 1, by omega, by go_num, HN2.out, trivial⟩
        case measure => exact meas_stepB hlt
    · obtain rfl : kl = j := by omega
      have hnn : ¬ (kl : Int) < (kl : Int) := by omega
      have HY : Hid (y ∉ ks) := fun hm => HN.out y (by rw [List.take_of_length_le (by have := HL.out; omega)]; exact hm) rfl
      clear HN
      go_wp2
      go_ret
      exact ⟨⟨_, rfl, ⟨fun h => by omega, fun h => absurd h HY.out⟩⟩, rfl⟩

theorem containsText (ks : List ByteArray) (kl : Nat) (ka : Option Addr) (kc : Nat) (y : ByteArray) (w : World) (hkl : ks.length = kl) (hm : kl ≤ maxLen) (hk : Reads w (.slice ka kl kc) (ks.map .string)) :
    Calls Try.prog 75 #[.slice ka kl kc, .string y] w fun e w' => (∃ b : Bool, e = .returned (.bool b) ∧ (b = true ↔ y ∈ ks)) ∧ w = w' := by
  have hix := indexText ks kl ka kc y w hkl hm hk
  clear hk hkl hm
  go_enter Try.func75, Try.ntmps75
  go_wp2_with fail
  go_at_call 53
  refine hix.mono ?_
  rintro e W ⟨⟨r, rfl, hr⟩, hW⟩
  obtain rfl : w = W := hW
  have HR : Hid (0 ≤ r ↔ y ∈ ks) := hr
  clear hix hr
  by_cases h0 : 0 ≤ r
  · have h0' : decide (0 ≤ r) = true := decide_eq_true h0
    have HY : Hid (y ∈ ks) := HR.out.1 h0
    clear h0
    go_wp2
    go_ret
    exact ⟨⟨true, rfl, ⟨fun _ => HY.out, fun _ => rfl⟩⟩, rfl⟩
  · have h0' : decide (0 ≤ r) = false := decide_eq_false h0
    have HY : Hid (y ∉ ks) := fun h => h0 (HR.out.2 h)
    clear h0
    go_wp2
    go_ret
    exact ⟨⟨false, rfl, ⟨fun e => Bool.noConfusion e, fun h => absurd h HY.out⟩⟩, rfl⟩

/-- What newMap answers: keys kl (of ks), items il. -/
def NmP (ks : List ByteArray) (il : Nat) (uv kv : Value) (w : World) (e : Ending) (w' : World) : Prop :=
  (∃ (v : Value) (b : Bool), e = .returned (.tuple #[v, .bool b]) ∧ (b = true ↔ ks.length = il ∧ KeysB ks) ∧ (b = true → v = .iface 88 (.agg #[uv, kv])) ∧ v.oneCell' = true) ∧ w = w'
theorem nm_no {ks : List ByteArray} {il : Nat} {uv kv : Value} {w : World} (h : ¬ (ks.length = il ∧ KeysB ks)) : NmP ks il uv kv w (.returned (.tuple #[.nilIface, .bool false])) w :=
  ⟨⟨.nilIface, false, rfl, ⟨fun e => Bool.noConfusion e, fun e => absurd e h⟩, fun e => Bool.noConfusion e, rfl⟩, rfl⟩

theorem newMap (ks : List ByteArray) (kl : Nat) (ka : Option Addr) (kc : Nat) (ua : Option Addr) (il uc : Nat) (w : World) (hkl : ks.length = kl) (hm : kl ≤ maxLen) (hkc : kl ≤ kc) (hx : ∀ x ∈ ks, x.size ≤ maxLen) (hk : Reads w (.slice ka kl kc) (ks.map .string)) :
    Calls Try.prog 70 #[.slice ka kl kc, .slice ua il uc] w (NmP ks il (.slice ua il uc) (.slice ka kl kc) w) := by
  have HRD : Hid (Reads w (.slice ka kl kc) (ks.map .string)) := hk
  unfold maxLen at hm
  obtain ⟨ao, cap, e9, hc⟩ := hk
  injection e9 with e1 e2 e3
  subst e1
  have HC : Hid _ := hc
  have HL : Hid (ks.length = kl) := hkl
  have HX : Hid _ := hx
  clear e2 e3 hc hkl hx
  by_cases hlk : kl = il
  rotate_left
  · have hlk' : ((kl : Int) != (il : Int)) = true := by simp; omega
    have NO : Hid (¬ (ks.length = il ∧ KeysB ks)) := fun h => hlk (by have := HL.out; omega)
    clear hlk
    go_enter Try.func70, Try.ntmps70
    go_wp2
    go_ret2
    exact nm_no NO.out
  subst hlk
  have hlk' : ((kl : Int) != (kl : Int)) = false := by simp
  go_enter Try.func70, Try.ntmps70
  go_wp2_with fail
  go_loopw [15] (fun i wr => ∃ a : Nat, a ≤ kl ∧ i = .int .i64 (a : Int) ∧ (∀ (c : Nat) (h : c < ks.length), c < a → textB ks[c] = true ∧ ks[c] ∉ ks.take c) ∧ w = wr) (fun i _ => kl - (intOf i).toNat)
  case atStart => exact ⟨0, Nat.zero_le _, rfl, fun c h h2 => by omega, rfl⟩
  case round =>
    obtain ⟨a, hal, rfl, hdone, rfl⟩ := hrel
    have HD : Hid (∀ (c : Nat) (h : c < ks.length), c < a → textB ks[c] = true ∧ ks[c] ∉ ks.take c) := hdone
    clear hdone
    by_cases hla9 : a < kl
    · have hla' : (a : Int) < (kl : Int) := by omega
      have hla : a < ks.length := by have := HL.out; omega
      obtain ⟨ta, hta⟩ : ∃ z, ks[a] = z := ⟨_, rfl⟩
      obtain ⟨b, off, rfl, ca⟩ := HC.out a (.string ta) (by rw [← hta]; simp [hla])
      have hsz := HX.out ta (by rw [← hta]; exact List.getElem_mem hla)
      have HTA : Hid (ks[a] = ta) := hta
      have htx := implText ta w hsz
      have hact : (a : Nat) ≤ kc := by omega
      have hcn := containsText (ks.take a) a (some ⟨b, off, none⟩) kc ta w (by rw [List.length_take]; have := HL.out; omega) (by unfold maxLen; omega) (by
        obtain ⟨ao, cap, e9, hc⟩ := HRD.out
        injection e9 with e1 e2 e3
        refine ⟨some ⟨b, off, none⟩, kc, by rw [List.length_map, List.length_take, Nat.min_eq_left (by have := HL.out; omega)], fun j x hx => ?_⟩
        obtain ⟨b', off', e', h'⟩ := HC.out j x (by
          rw [List.getElem?_map] at hx ⊢
          have hja : j < a := by
            rcases Nat.lt_or_ge j a with h | h
            · exact h
            · rw [List.getElem?_eq_none (by rw [List.length_take]; omega)] at hx; simp at hx
          rw [List.getElem?_take_of_lt hja] at hx
          exact hx)
        injection e' with e'
        injection e' with e1' e2' e3'
        subst e1'
        subst e2'
        exact ⟨b, off, rfl, h'⟩)
      obtain ⟨bb, hbb⟩ : ∃ z, textB ta = z := ⟨_, rfl⟩
      rw [hbb] at htx
      have HBB : Hid (textB ta = bb) := hbb
      clear hta hbb
      go_wp2_with fail
      go_at_call 74
      refine htx.mono ?_
      rintro e W2 ⟨rfl, hW2⟩
      obtain rfl : w = W2 := hW2
      clear htx
      cases bb with
      | false =>
        have NO : Hid (¬ (ks.length = kl ∧ KeysB ks)) := fun h => by
          have h3 := (h.2 a hla).1
          rw [HTA.out, HBB.out] at h3; cases h3
        clear hcn
        go_wp2
        go_ret2
        exact nm_no NO.out
      | true =>
        go_wp2_with fail
        go_at_call 75
        refine hcn.mono ?_
        rintro e W2 ⟨⟨bc, rfl, hbc⟩, hW2⟩
        obtain rfl : w = W2 := hW2
        have HBC : Hid (bc = true ↔ ta ∈ ks.take a) := hbc
        clear hcn hbc
        cases bc with
        | true =>
          have NO : Hid (¬ (ks.length = kl ∧ KeysB ks)) := fun h => by
            have h3 := (h.2 a hla).2
            rw [HTA.out] at h3
            exact h3 (HBC.out.1 rfl)
          go_wp2
          go_ret2
          exact nm_no NO.out
        | false =>
          have HD2 : Hid (∀ (c : Nat) (h : c < ks.length), c < a + 1 → textB ks[c] = true ∧ ks[c] ∉ ks.take c) := fun c h h2 => by
            by_cases hz : c < a
            · exact HD.out c h hz
            · obtain rfl : c = a := by omega
              exact ⟨by rw [HTA.out, HBB.out], fun hm => by rw [HTA.out] at hm; exact Bool.noConfusion (HBC.out.2 hm)⟩
          go_wp2
          go_roundw
          case rel => exact ⟨a + 1, by omega, by go_num, HD2.out, trivial⟩
          case measure => exact meas_stepB hla9
    · obtain rfl : kl = a := by omega
      have hna : ¬ (kl : Int) < (kl : Int) := by omega
      have YES : Hid (ks.length = kl ∧ KeysB ks) := ⟨HL.out, fun i h => HD.out i h (by have := HL.out; omega)⟩
      clear HD hla9
      go_wp2
      go_ret2
      exact ⟨⟨_, true, rfl, ⟨fun _ => YES.out, fun _ => rfl⟩, fun _ => rfl, rfl⟩, rfl⟩

end Go.Proofs.Ytepahapocgmhiaa
