/-
  Chapter 1: is a text right? (spec.l1Text, impl.textOk)
-/
import Derived.Test.YtepahapocgmhiaaValM
namespace Go.Proofs.Ytepahapocgmhiaa
open Go.RowKit
set_option linter.unusedVariables false
set_option linter.unusedSimpArgs false
set_option maxHeartbeats 2000000
set_option maxRecDepth 20000

def byteB (c : UInt8) : Bool := decide (c.toNat = 10) || (decide (32 ≤ c.toNat) && decide (c.toNat ≤ 126))
def textB (t : ByteArray) : Bool := t.data.toList.all byteB && decide (t.size ≤ 100)

theorem list_len (t : ByteArray) : t.data.toList.length = t.size := Array.length_toList

/-- One byte more. -/
theorem text_more {t : ByteArray} {k : Nat} (hlt : k < t.size) (h : (t.data.toList.take k).all byteB = true) :
    (byteB (t[k]'hlt) = true → (t.data.toList.take (k + 1)).all byteB = true) ∧ (byteB (t[k]'hlt) = false → textB t = false) := by
  have hl2 : k < t.data.toList.length := by rw [list_len]; exact hlt
  have hget : t.data.toList[k]'hl2 = t[k]'hlt := rfl
  refine ⟨fun h9 => ?_, fun h9 => ?_⟩
  · rw [List.take_succ_eq_append_getElem hl2, List.all_append, h, hget]
    simp only [List.all_cons, List.all_nil, h9, Bool.and_self]
  · unfold textB
    have : t.data.toList.all byteB = false := by
      rw [List.all_eq_false]
      exact ⟨t[k]'hlt, by rw [← hget]; exact List.getElem_mem hl2, by rw [h9]; exact Bool.false_ne_true⟩
    rw [this]; rfl
theorem byte10 {c : UInt8} (h : c.toNat = 10) : byteB c = true := by unfold byteB; rw [decide_eq_true h]; rfl
theorem byteLo {c : UInt8} (h : c.toNat ≠ 10) (h2 : c.toNat < 32) : byteB c = false := by unfold byteB; rw [decide_eq_false h, decide_eq_false (by omega)]; rfl
theorem byteHi {c : UInt8} (h : c.toNat ≠ 10) (h2 : 126 < c.toNat) : byteB c = false := by unfold byteB; rw [decide_eq_false h, decide_eq_false (p := c.toNat ≤ 126) (by omega), Bool.and_false]; rfl
theorem byteIn {c : UInt8} (h1 : 32 ≤ c.toNat) (h2 : c.toNat ≤ 126) : byteB c = true := by unfold byteB; rw [decide_eq_true h1, decide_eq_true h2, Bool.and_self, Bool.or_true]
theorem text_all {t : ByteArray} (h : (t.data.toList.take t.size).all byteB = true) : textB t = decide ((t.size : Int) ≤ 100) := by
  unfold textB
  rw [← list_len t, List.take_length] at h
  rw [h, Bool.true_and]
  exact decide_eq_decide.2 (by omega)


theorem specText (t : ByteArray) (w : World) (hs : t.size ≤ maxLen) :
    Calls Try.prog 63 #[.string t] w fun e w' => e = .returned (.bool (textB t)) ∧ w = w' := by
  unfold maxLen at hs
  go_enter Try.func63, Try.ntmps63
  go_wp2_with fail
  go_loopw [3] (fun i wr => ∃ k : Nat, k ≤ t.size ∧ i = .int .i64 k ∧ w = wr ∧ (t.data.toList.take k).all byteB = true) (fun i _ => t.size - (intOf i).toNat)
  case atStart => exact ⟨0, Nat.zero_le _, rfl, rfl, by simp⟩
  case round =>
    obtain ⟨k, hk, rfl, rfl, hall⟩ := hrel
    by_cases hlt : k < t.size
    · have hlt' : (k : Int) < (t.size : Int) := by omega
      have hk0 : (0 : Int) ≤ (k : Int) := by omega
      have HM : Hid _ := text_more hlt hall
      clear hall
      by_cases h10 : (t[k]'hlt).toNat = 10
      · have h10a : (((t[k]'hlt).toNat : Int) == 10) = true := beq_iff_eq.2 (by omega)
        have h10b : (((t[k]'hlt).toNat : Int) != 10) = false := by unfold bne; rw [h10a]; rfl
        have HR : Hid ((t.data.toList.take (k + 1)).all byteB = true) := HM.out.1 (byte10 h10)
        clear HM h10
        go_wp2
        go_roundw
        case rel => exact ⟨k + 1, by omega, by go_num, trivial, HR.out⟩
        case measure => simp [intOf]; omega
      · have h10a : (((t[k]'hlt).toNat : Int) == 10) = false := beq_eq_false_iff_ne.2 (by omega)
        have h10b : (((t[k]'hlt).toNat : Int) != 10) = true := by unfold bne; rw [h10a]; rfl
        by_cases h32 : (t[k]'hlt).toNat < 32
        · have hd : decide (((t[k]'hlt).toNat : Int) < 32) = true := decide_eq_true (by omega)
          have HE : Hid (textB t = false) := HM.out.2 (byteLo h10 h32)
          clear HM h10
          go_wp2
          go_ret
          exact ⟨by rw [HE.out]; rfl, rfl⟩
        · have hd : decide (((t[k]'hlt).toNat : Int) < 32) = false := decide_eq_false (by omega)
          by_cases h126 : 126 < (t[k]'hlt).toNat
          · have hd2 : decide ((126 : Int) < ((t[k]'hlt).toNat : Int)) = true := decide_eq_true (by omega)
            have HE : Hid (textB t = false) := HM.out.2 (byteHi h10 h126)
            clear HM h10
            go_wp2
            go_ret
            exact ⟨by rw [HE.out]; rfl, rfl⟩
          · have hd2 : decide ((126 : Int) < ((t[k]'hlt).toNat : Int)) = false := decide_eq_false (by omega)
            have HR : Hid ((t.data.toList.take (k + 1)).all byteB = true) := HM.out.1 (byteIn (by omega) (by omega))
            clear HM h10
            go_wp2
            go_roundw
            case rel => exact ⟨k + 1, by omega, by go_num, trivial, HR.out⟩
            case measure => simp [intOf]; omega
    · obtain rfl : k = t.size := by omega
      have hnk : ¬ (t.size : Int) < (t.size : Int) := by omega
      have HE : Hid (textB t = decide ((t.size : Int) ≤ 100)) := text_all hall
      clear hall
      go_wp2
      go_ret
      exact ⟨by rw [HE.out]; rfl, rfl⟩

theorem implText (t : ByteArray) (w : World) (hs : t.size ≤ maxLen) :
    Calls Try.prog 74 #[.string t] w fun e w' => e = .returned (.bool (textB t)) ∧ w = w' := by
  unfold maxLen at hs
  by_cases h100 : 100 < t.size
  · have hg : decide ((100 : Int) < (t.size : Int)) = true := decide_eq_true (by omega)
    have HE : Hid (textB t = false) := by
      show textB t = false
      unfold textB; rw [decide_eq_false (p := t.size ≤ 100) (by omega), Bool.and_false]
    clear h100
    go_enter Try.func74, Try.ntmps74
    go_wp2
    go_ret
    exact ⟨by rw [HE.out]; rfl, rfl⟩
  have hg : decide ((100 : Int) < (t.size : Int)) = false := decide_eq_false (by omega)
  go_enter Try.func74, Try.ntmps74
  go_wp2_with fail
  go_loopw [10] (fun i wr => ∃ k : Nat, k ≤ t.size ∧ i = .int .i64 k ∧ w = wr ∧ (t.data.toList.take k).all byteB = true) (fun i _ => t.size - (intOf i).toNat)
  case atStart => exact ⟨0, Nat.zero_le _, rfl, rfl, by simp⟩
  case round =>
    obtain ⟨k, hk, rfl, rfl, hall⟩ := hrel
    by_cases hlt : k < t.size
    · have hlt' : (k : Int) < (t.size : Int) := by omega
      have hk0 : (0 : Int) ≤ (k : Int) := by omega
      have HM : Hid _ := text_more hlt hall
      clear hall
      by_cases h10 : (t[k]'hlt).toNat = 10
      · have h10a : (((t[k]'hlt).toNat : Int) == 10) = true := beq_iff_eq.2 (by omega)
        have h10b : (((t[k]'hlt).toNat : Int) != 10) = false := by unfold bne; rw [h10a]; rfl
        have HR : Hid ((t.data.toList.take (k + 1)).all byteB = true) := HM.out.1 (byte10 h10)
        clear HM h10
        go_wp2
        go_roundw
        case rel => exact ⟨k + 1, by omega, by go_num, trivial, HR.out⟩
        case measure => simp [intOf]; omega
      · have h10a : (((t[k]'hlt).toNat : Int) == 10) = false := beq_eq_false_iff_ne.2 (by omega)
        have h10b : (((t[k]'hlt).toNat : Int) != 10) = true := by unfold bne; rw [h10a]; rfl
        by_cases h32 : (t[k]'hlt).toNat < 32
        · have hd : decide (((t[k]'hlt).toNat : Int) < 32) = true := decide_eq_true (by omega)
          have HE : Hid (textB t = false) := HM.out.2 (byteLo h10 h32)
          clear HM h10
          go_wp2
          go_ret
          exact ⟨by rw [HE.out]; rfl, rfl⟩
        · have hd : decide (((t[k]'hlt).toNat : Int) < 32) = false := decide_eq_false (by omega)
          by_cases h126 : 126 < (t[k]'hlt).toNat
          · have hd2 : decide ((126 : Int) < ((t[k]'hlt).toNat : Int)) = true := decide_eq_true (by omega)
            have HE : Hid (textB t = false) := HM.out.2 (byteHi h10 h126)
            clear HM h10
            go_wp2
            go_ret
            exact ⟨by rw [HE.out]; rfl, rfl⟩
          · have hd2 : decide ((126 : Int) < ((t[k]'hlt).toNat : Int)) = false := decide_eq_false (by omega)
            have HR : Hid ((t.data.toList.take (k + 1)).all byteB = true) := HM.out.1 (byteIn (by omega) (by omega))
            clear HM h10
            go_wp2
            go_roundw
            case rel => exact ⟨k + 1, by omega, by go_num, trivial, HR.out⟩
            case measure => simp [intOf]; omega
    · obtain rfl : k = t.size := by omega
      have hnk : ¬ (t.size : Int) < (t.size : Int) := by omega
      have HE : Hid (textB t = decide ((t.size : Int) ≤ 100)) := text_all hall
      clear hall
      have HE2 : Hid (textB t = true) := by show textB t = true; rw [HE.out]; exact decide_eq_true (by omega)
      clear HE
      go_wp2
      go_ret
      exact ⟨by rw [HE2.out]; rfl, rfl⟩

end Go.Proofs.Ytepahapocgmhiaa
