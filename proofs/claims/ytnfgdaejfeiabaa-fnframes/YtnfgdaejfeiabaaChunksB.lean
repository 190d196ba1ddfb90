/-
  In whatever chunks the same bytes come the same is told: the mathematics.
-/
import Derived.Test.YtnfgdaejfeiabaaFedB
import Derived.Lib.Strings
namespace Go.Proofs.Ytnfgdaejfeiabaa
open Go.RowKit
set_option linter.unusedVariables false

theorem app_data (s c : ByteArray) : (s ++ c).data.toList = s.data.toList ++ c.data.toList := by
  rw [ByteArray.data_append, Array.toList_append]

theorem bytes_ext {a b : ByteArray} (h : a.data.toList = b.data.toList) : a = b := ByteArray.ext (Array.toList_inj.1 h)

theorem size_data (s : ByteArray) : s.data.toList.length = s.size := (Lib.size_eq s).symm

theorem told_app (s c : ByteArray) (h : ¬ s.size < 2) : told (s ++ c) = told s := by
  have hl := size_data s
  unfold told
  rw [app_data]
  have e0 : (s.data.toList ++ c.data.toList).getD 0 0 = s.data.toList.getD 0 0 := by
    rw [List.getD_eq_getElem?_getD, List.getD_eq_getElem?_getD, List.getElem?_append_left (by omega)]
  have e1 : (s.data.toList ++ c.data.toList).getD 1 0 = s.data.toList.getD 1 0 := by
    rw [List.getD_eq_getElem?_getD, List.getD_eq_getElem?_getD, List.getElem?_append_left (by omega)]
  rw [e0, e1]

theorem extract_app_left (s c : ByteArray) (a b : Nat) (hab : a ≤ b) (h : b ≤ s.size) : (s ++ c).extract a b = s.extract a b := by
  apply bytes_ext
  have hl := size_data s
  rw [Lib.extract_data, Lib.extract_data, app_data, List.drop_append_of_le_length (by omega), List.take_append_of_le_length (by simp; omega)]

theorem extract_app_end (s c : ByteArray) (a : Nat) (h : a ≤ s.size) : (s ++ c).extract a (s ++ c).size = s.extract a s.size ++ c := by
  apply bytes_ext
  have hl := size_data s
  have hc := size_data c
  rw [Lib.extract_data, app_data, app_data, Lib.extract_data, List.drop_append_of_le_length (by omega), List.take_of_length_le (by simp [ByteArray.size_append]; omega), List.take_of_length_le (by simp)]

theorem offs_fuel : ∀ (n m : Nat) (s : ByteArray), s.size < n → s.size < m → offs n s = offs m s
  | 0, _, s, h, _ => absurd h (by omega)
  | _, 0, s, _, h => absurd h (by omega)
  | n + 1, m + 1, s, hn, hm => by
    by_cases h1 : s.size < 2
    · rw [offs_short n s h1, offs_short m s h1]
    by_cases h2 : 2000 < told s
    · rw [offs_bad n s h1 h2, offs_bad m s h1 h2]
    by_cases h3 : s.size < 2 + told s
    · rw [offs_wait n s h1 h2 h3, offs_wait m s h1 h2 h3]
    have hz : (s.extract (2 + told s) s.size).size = s.size - (2 + told s) := by simp
    rw [offs_one n s h1 h2 h3, offs_one m s h1 h2 h3, offs_fuel n m (s.extract (2 + told s) s.size) (by omega) (by omega)]

/-- What is told of s and c together: what is told of s, and then of what was left and c. -/
def offThen (S : List ByteArray × ByteArray × Bool) (n : Nat) (c : ByteArray) : List ByteArray × ByteArray × Bool :=
  if S.2.2 then (S.1, ⟨#[]⟩, true) else (S.1 ++ (offs n (S.2.1 ++ c)).1, (offs n (S.2.1 ++ c)).2)

theorem offs_app : ∀ (n m k : Nat) (s c : ByteArray), s.size < n → s.size + c.size < m → s.size + c.size < k → offs m (s ++ c) = offThen (offs n s) k c
  | 0, _, _, s, _, h, _, _ => absurd h (by omega)
  | _, 0, _, s, _, _, h, _ => absurd h (by omega)
  | n + 1, m + 1, k, s, c, hn, hm, hk => by
    have hsz : (s ++ c).size = s.size + c.size := ByteArray.size_append
    by_cases h1 : s.size < 2
    · rw [offs_short n s h1, offThen]
      simp only [Bool.false_eq_true, if_false, List.nil_append]
      exact offs_fuel _ _ _ (by omega) (by omega)
    have h1' : ¬ (s ++ c).size < 2 := by omega
    have ht := told_app s c h1
    by_cases h2 : 2000 < told s
    · rw [offs_bad n s h1 h2, offs_bad m (s ++ c) h1' (by omega), offThen]
      simp
    by_cases h3 : s.size < 2 + told s
    · rw [offs_wait n s h1 h2 h3, offThen]
      simp only [Bool.false_eq_true, if_false, List.nil_append]
      exact offs_fuel _ _ _ (by omega) (by omega)
    have hz : (s.extract (2 + told s) s.size).size = s.size - (2 + told s) := by simp
    rw [offs_one n s h1 h2 h3, offs_one m (s ++ c) h1' (by omega) (by omega), ht, extract_app_left s c 2 (2 + told s) (by omega) (by omega), extract_app_end s c (2 + told s) (by omega),
      offs_app n m k (s.extract (2 + told s) s.size) c (by omega) (by omega) (by omega)]
    unfold offThen
    split <;> simp

theorem offs_rest : ∀ (n : Nat) (s : ByteArray), s.size < n → (offs n s).2.1.size ≤ 2001 ∧ ((offs n s).2.2 = true → (offs n s).2.1 = ⟨#[]⟩) ∧ (offs n s).2.1.size ≤ s.size
  | 0, s, h => absurd h (by omega)
  | n + 1, s, hn => by
    by_cases h1 : s.size < 2
    · rw [offs_short n s h1]; exact ⟨by show s.size ≤ 2001; omega, by simp, by simp⟩
    by_cases h2 : 2000 < told s
    · rw [offs_bad n s h1 h2]; exact ⟨by decide, fun _ => rfl, by show 0 ≤ s.size; omega⟩
    by_cases h3 : s.size < 2 + told s
    · rw [offs_wait n s h1 h2 h3]; exact ⟨by show s.size ≤ 2001; omega, by simp, by simp⟩
    have hz : (s.extract (2 + told s) s.size).size = s.size - (2 + told s) := by simp
    rw [offs_one n s h1 h2 h3]
    have := offs_rest n (s.extract (2 + told s) s.size) (by omega)
    exact ⟨this.1, this.2.1, by have := this.2.2; show (offs n (s.extract (2 + told s) s.size)).2.1.size ≤ s.size; omega⟩

theorem readerOk_offs (n : Nat) (s : ByteArray) (h : s.size < n) : readerOk (offs n s).2.1 (offs n s).2.2 = true := by
  obtain ⟨h1, h2, _⟩ := offs_rest n s h
  unfold readerOk
  cases hb : (offs n s).2.2 with
  | false => simp; omega
  | true =>
    rw [h2 hb, Go.ByteArray.toList_eq]
    rfl

theorem app_nil (a : ByteArray) : a ++ ⟨#[]⟩ = a := bytes_ext (by rw [app_data]; simp)
theorem nil_app (a : ByteArray) : ⟨#[]⟩ ++ a = a := bytes_ext (by rw [app_data]; simp)
theorem app_assoc (a b c : ByteArray) : a ++ b ++ c = a ++ (b ++ c) := bytes_ext (by simp only [app_data, List.append_assoc])

end Go.Proofs.Ytnfgdaejfeiabaa
