/-
  What is framed is told whole: the mathematics of FnFrames.
-/
import Derived.Test.YtnfgdaejfeiabaaChunksB
import Derived.Test.YtnfgdaejfeiabaaFrameFn
namespace Go.Proofs.Ytnfgdaejfeiabaa
open Go.RowKit
set_option linter.unusedVariables false

theorem fed_ok (r : ByteArray) (b : Bool) (c : ByteArray) : readerOk (fed r b c).2.1 (fed r b c).2.2 = true ∧ ((fed r b c).2.2 = true → (fed r b c).2.1 = ⟨#[]⟩) ∧ (b = true → (fed r b c).1 = []) := by
  unfold fed
  by_cases h : readerOk r b = true ∧ (c.size : Int) ≤ 20000
  · rw [if_pos h]
    cases b
    · have hs := readerOk_size h.1
      have hz : (r ++ c).size < 1000001 := by rw [ByteArray.size_append]; omega
      refine ⟨readerOk_offs _ _ hz, (offs_rest _ _ hz).2.1, by simp⟩
    · rw [if_pos rfl]
      refine ⟨?_, fun _ => rfl, fun _ => rfl⟩
      unfold readerOk
      rw [Go.ByteArray.toList_eq]
      rfl
  · rw [if_neg h]
    exact ⟨rfl, fun _ => rfl, fun _ => rfl⟩

theorem fed_nil (c : ByteArray) (hc : c.size ≤ 20000) : fed ⟨#[]⟩ false c = offs 1000001 c := by
  unfold fed
  rw [if_pos ⟨rfl, by omega⟩, nil_app]
  rfl

theorem framed_told (s x : ByteArray) (h : s.size ≤ 2000) : told (framed s ++ x) = s.size := by
  unfold told
  rw [app_data, framed, app_data, strOfNums_data]
  simp
  have h1 : (s.size / 256) % 256 = s.size / 256 := Nat.mod_eq_of_lt (by omega)
  omega

theorem extract_right (a b : ByteArray) (i j : Nat) (hi : i = a.size) (hj : j = (a ++ b).size) : (a ++ b).extract i j = b := by
  subst hi hj
  rw [extract_app_end a b a.size (Nat.le_refl _)]
  apply bytes_ext
  rw [app_data]
  simp

theorem offs_framed (n : Nat) (s x : ByteArray) (h : s.size ≤ 2000) : offs (n + 1) (framed s ++ x) = (s :: (offs n x).1, (offs n x).2) := by
  have ht := framed_told s x h
  have hz : (framed s ++ x).size = 2 + s.size + x.size := by rw [ByteArray.size_append, framed_size]
  have e1 : (framed s ++ x).extract 2 (2 + s.size) = s := by
    rw [extract_app_left _ _ _ _ (by omega) (by rw [framed_size]; omega), framed]
    exact extract_right _ _ _ _ (by rw [strOfNums_size]; rfl) (by rw [ByteArray.size_append, strOfNums_size]; rfl)
  have e2 : (framed s ++ x).extract (2 + s.size) (framed s ++ x).size = x := extract_right _ _ _ _ (by rw [framed_size]) rfl
  rw [offs_one n _ (by omega) (by omega) (by omega), ht, e1, e2]

theorem fed_zero (s : ByteArray) (h : s.size ≤ 2000) : fed ⟨#[]⟩ false (framed s ++ ⟨#[0]⟩) = ([s], ⟨#[0]⟩, false) := by
  have hz : (⟨#[0]⟩ : ByteArray).size = 1 := rfl
  rw [fed_nil _ (by rw [ByteArray.size_append, framed_size, hz]; omega), offs_framed _ _ _ h, offs_short 999999 _ (by omega)]

theorem fed_bad (s : ByteArray) (h : s.size ≤ 2000) : fed ⟨#[]⟩ false (framed s ++ ⟨#[255, 255]⟩ ++ framed s) = ([s], ⟨#[]⟩, true) := by
  have hz : (⟨#[255, 255]⟩ : ByteArray).size = 2 := rfl
  have ht : told ((⟨#[255, 255]⟩ : ByteArray) ++ framed s) = 65535 := by
    unfold told
    rw [app_data]
    simp
  rw [fed_nil _ (by rw [ByteArray.size_append, ByteArray.size_append, framed_size, hz]; omega), app_assoc, offs_framed _ _ _ h,
    offs_bad 999999 _ (by rw [ByteArray.size_append, hz]; omega) (by omega)]

theorem fed_cut (s : ByteArray) (h : s.size ≤ 2000) : fed ⟨#[]⟩ false ((framed s).extract 0 ((framed s).size - 1)) = ([], (framed s).extract 0 ((framed s).size - 1), false) := by
  have hz := framed_size s
  have hg : ((framed s).extract 0 ((framed s).size - 1)).size = 1 + s.size := by rw [ByteArray.size_extract]; omega
  rw [fed_nil _ (by omega)]
  by_cases h0 : s.size = 0
  · exact offs_short 1000000 _ (by omega)
  · have ht : told ((framed s).extract 0 ((framed s).size - 1)) = s.size := by
      have hsplit : (framed s).extract 0 ((framed s).size - 1) ++ (framed s).extract ((framed s).size - 1) (framed s).size = framed s := by
        apply bytes_ext
        have hl := size_data (framed s)
        rw [app_data, Lib.extract_data, Lib.extract_data, List.drop_zero, Nat.sub_zero, List.take_of_length_le (l := (framed s).data.toList.drop ((framed s).size - 1)) (by simp), List.take_append_drop]
      have h1 := told_app ((framed s).extract 0 ((framed s).size - 1)) ((framed s).extract ((framed s).size - 1) (framed s).size) (by omega)
      rw [hsplit] at h1
      rw [← h1, ← app_nil (framed s)]
      exact framed_told s _ h
    exact offs_wait 1000000 _ (by omega) (by omega) (by omega)

end Go.Proofs.Ytnfgdaejfeiabaa
