/-
  Chapter 13, texts: spec.l1Read.
-/
import Derived.Test.YtjdmmpdcafbneaaDoorReadM
namespace Go.Proofs.YtjdmmpdcafbneaaDoor
open Go.RowKit
set_option linter.unusedVariables false
set_option linter.unusedSimpArgs false
set_option maxHeartbeats 4000000
set_option maxRecDepth 20000

def small2 : Bool := (List.range 100).all fun m => valT (dd2 m) == (m : Int) && (dd2 m).all (fun c => decide (48 ≤ c.toNat) && decide (c.toNat ≤ 57)) && decide (1 ≤ (dd2 m).length) && decide ((dd2 m).length ≤ 2) && ((dd2 m).getD 0 0 != 48 || decide ((dd2 m).length = 1))
theorem small2_yes : small2 = true := by decide +kernel
theorem dd2_facts {m : Nat} (h : m < 100) : valT (dd2 m) = m ∧ (∀ c ∈ dd2 m, 48 ≤ c.toNat ∧ c.toNat ≤ 57) ∧ 1 ≤ (dd2 m).length ∧ (dd2 m).length ≤ 2 ∧ ((dd2 m).getD 0 0 = 48 → (dd2 m).length = 1) := by
  have h0 := small2_yes
  unfold small2 at h0
  have h1 := List.all_eq_true.1 h0 m (List.mem_range.2 h)
  simp only [Bool.and_eq_true, beq_iff_eq, decide_eq_true_eq, Bool.or_eq_true, bne_iff_ne] at h1
  obtain ⟨⟨⟨⟨h2, h3⟩, h4⟩, h5⟩, h6⟩ := h1
  refine ⟨h2, fun c hc => ?_, h4, h5, fun e => h6.resolve_left (fun h => h e)⟩
  have := List.all_eq_true.1 h3 c hc
  simpa using this

theorem valT_take {D : List UInt8} {k : Nat} (h : k < D.length) : valT (D.take (k + 1)) = valT (D.take k) * 10 + ((D[k].toNat : Int) - 48) := by
  unfold valT
  rw [List.take_succ_eq_append_getElem h, List.foldl_append]
  rfl

/-- What is read of the first k bytes. -/
structure RN (D : List UInt8) (i k : Nat) (n : Int) : Prop where
  lo : 0 ≤ n
  hi : n < 10 ^ (k - i)
  val : i = 0 → n = valT (D.take k)

theorem RN.zero (D : List UInt8) (i : Nat) : RN D i i 0 := ⟨by omega, by simp, fun h => by subst h; rfl⟩
theorem RN.bound {D : List UInt8} {i k : Nat} {n : Int} (h : RN D i k n) (hk : k - i ≤ 9) : 0 ≤ n ∧ n < 1000000000 := by
  refine ⟨h.lo, ?_⟩
  have h1 := h.hi
  have h2 : (10 : Int) ^ (k - i) ≤ 10 ^ 9 := by
    have : (10 : Nat) ^ (k - i) ≤ 10 ^ 9 := Nat.pow_le_pow_right (by omega) hk
    exact_mod_cast this
  omega
theorem RN.step {D : List UInt8} {i k : Nat} {n : Int} (h : RN D i k n) (hi : i ≤ k) (hk : k < D.length) (h48 : 48 ≤ D[k].toNat) (h57 : D[k].toNat ≤ 57) : RN D i (k + 1) (n * 10 + ((D[k].toNat : Int) - 48)) := by
  refine ⟨by have := h.lo; omega, ?_, fun e => ?_⟩
  · have h1 := h.hi
    rw [Nat.sub_add_comm hi, Int.pow_succ]
    generalize (10 : Int) ^ (k - i) = X at h1 ⊢
    omega
  · rw [valT_take hk, ← h.val e]

def RdP (s : ByteArray) (w : World) (r : Ending) (w' : World) : Prop := ∃ (n : Int) (b : Bool), r = .returned (.tuple #[.int .i64 n, .bool b]) ∧ w = w' ∧ (∀ m : Nat, m < 100 → s.data.toList = dd2 m → n = m)

theorem l1Read (s : ByteArray) (w : World) (hl : s.size ≤ 1000000) :
    Calls Tryd.prog 37 #[.string s] w (RdP s w) := by
  have hsz : s.data.toList.length = s.size := by simp
  by_cases h0 : s.size = 0
  · have he : s = ⟨#[]⟩ := by
      cases s with
      | mk d => simp at h0; rw [h0]; rfl
    subst he
    go_enter Tryd.func37, Tryd.ntmps37
    go_wp2
    refine bodyPost_ret (v := .tuple #[.int .i64 0, .bool false]) (by simp [results, Tryd.results37, go_sem]) rfl ?_
    refine ⟨_, _, rfl, rfl, fun m hm e => ?_⟩
    have := (dd2_facts hm).2.2.1
    rw [← e] at this
    simp at this
  have hne : s ≠ (⟨#[]⟩ : ByteArray) := fun e => by rw [e] at h0; exact h0 rfl
  have p0 : 0 < s.size := by omega
  have p0i : (0 : Int) < (s.size : Int) := by omega
  have hq0 := UInt8.toNat_lt s[0]
  have hnl : ¬ s.toList = [] := fun e => by
    have h9 := congrArg List.length e
    rw [ByteArray.toList_eq, hsz] at h9
    exact h0 h9
  have hem : s.toList.isEmpty = false := by
    cases hq : s.toList with
    | nil => exact absurd hq hnl
    | cons _ _ => rfl
  by_cases hneg : ((s[0].toNat : Nat) : Int) = 45
  · have hng : (((s[0].toNat : Nat) : Int) == 45) = true := by simpa using hneg
    have HX : Hid (∀ m : Nat, m < 100 → s.data.toList ≠ dd2 m) := fun m hm e => by
      have h9 := (dd2_facts hm).2.1 s[0] (by rw [← e]; exact List.getElem_mem (l := s.data.toList) (by rw [hsz]; exact p0))
      omega
    have s1 : ((s.size : Int) - 1 < 1) ∨ (9 < (s.size : Int) - 1) ∨ (1 ≤ (s.size : Int) - 1 ∧ (s.size : Int) - 1 ≤ 9) := by omega
    by_cases hlen : 1 + 1 ≤ s.size ∧ s.size ≤ 1 + 9
    · obtain ⟨hA, hB⟩ := hlen
      have hAi : (1 : Int) ≤ (s.size : Int) - 1 := by omega
      have hBi : (s.size : Int) - 1 ≤ 9 := by omega
      clear s1
      clear hnl hne h0
      go_enter Tryd.func37, Tryd.ntmps37
      go_wp2
      go_loopw [6, 7] (fun x q wr => ∃ (n : Int) (k : Nat), x = .int .i64 n ∧ q = .int .i64 k ∧ 1 ≤ k ∧ k ≤ s.size ∧ w = wr ∧ Hid (RN s.data.toList 1 k n)) (fun _ q _ => s.size - (intOf q).toNat)
      case atStart => exact ⟨0, 1, rfl, rfl, by omega, by omega, rfl, RN.zero _ _⟩
      case round =>
        obtain ⟨n, k, rfl, rfl, hik, hk, rfl, HR⟩ := hrel
        obtain ⟨hn0, hn9⟩ := HR.out.bound (by omega)
        by_cases hlt : k < s.size
        · have hlt9 : (k : Int) < (s.size : Int) := by omega
          have hkd : k < s.data.toList.length := by rw [hsz]; exact hlt
          have hek : s.data.toList[k] = s[k]'hlt := rfl
          have hqk := UInt8.toNat_lt (s[k]'hlt)
          have HS : Hid _ := HR.out.step hik hkd
          have HM : Hid ((s[k]'hlt) ∈ s.data.toList) := by show (s[k]'hlt) ∈ s.data.toList; rw [← hek]; exact List.getElem_mem hkd
          have HV : Hid (48 ≤ (s[k]'hlt).toNat → (s[k]'hlt).toNat ≤ 57 → RN s.data.toList 1 (k + 1) (n * 10 + (((s[k]'hlt).toNat : Int) - 48))) := fun h1 h2 => by have := HS.out (by rw [hek]; exact h1) (by rw [hek]; exact h2); rw [hek] at this; exact this
          have HB9 : Hid (¬ (48 ≤ (s[k]'hlt).toNat ∧ (s[k]'hlt).toNat ≤ 57) → ∀ m : Nat, m < 100 → s.data.toList = dd2 m → (0 : Int) = m) := fun hnn m hm e => absurd ((dd2_facts hm).2.1 (s[k]'hlt) (e ▸ HM.out)) hnn
          clear HS hek hkd HM
          by_cases hd : 48 ≤ (s[k]'hlt).toNat ∧ (s[k]'hlt).toNat ≤ 57
          · have hd1 : (48 : Int) ≤ (((s[k]'hlt).toNat : Nat) : Int) := by omega
            have hd2 : (((s[k]'hlt).toNat : Nat) : Int) ≤ 57 := by omega
            have HV2 := HV.out hd.1 hd.2
            have HV3 : Hid _ := HV2
            clear HV HV2 HB9
            go_wp2
            go_roundw
            case rel => exact ⟨_, k + 1, by go_num, by go_num, by omega, by omega, by trivial, HV3.out⟩
            case measure => simp [intOf]; omega
          · have hdi : ¬ ((48 : Int) ≤ (((s[k]'hlt).toNat : Nat) : Int) ∧ (((s[k]'hlt).toNat : Nat) : Int) ≤ 57) := by omega
            by_cases hd3 : (48 : Int) ≤ (((s[k]'hlt).toNat : Nat) : Int)
            · have hd4 : (57 : Int) < (((s[k]'hlt).toNat : Nat) : Int) := by omega
              go_wp2
              refine bodyPost_ret (v := .tuple #[.int .i64 0, .bool false]) (by simp [results, Tryd.results37, go_sem]) rfl ?_
              exact ⟨_, _, rfl, by trivial, HB9.out hd⟩
            · have hd4 : (((s[k]'hlt).toNat : Nat) : Int) < 48 := by omega
              go_wp2
              refine bodyPost_ret (v := .tuple #[.int .i64 0, .bool false]) (by simp [results, Tryd.results37, go_sem]) rfl ?_
              exact ⟨_, _, rfl, by trivial, HB9.out hd⟩
        · have hkk : k = s.size := by omega
          subst hkk
          have HN : Hid (∀ (x : Int) (m : Nat), m < 100 → s.data.toList = dd2 m → x = m) := fun x m hm e => absurd e (HX.out m hm)
          have hkx : (1 : Int) < (s.size : Int) := by omega
          have hl1 : 1 < s.size := by omega
          have hq1 := UInt8.toNat_lt (s[1])
          by_cases hz : (((s[1]).toNat : Nat) : Int) = 48
          · go_wp2
            refine bodyPost_ret (v := .tuple #[.int .i64 0, .bool false]) (by simp [results, Tryd.results37, go_sem]) rfl ?_
            exact ⟨_, _, rfl, by trivial, HN.out _⟩
          · go_wp2
            refine bodyPost_ret (v := .tuple #[.int .i64 (-n), .bool true]) (by simp [results, Tryd.results37, go_sem]) rfl ?_
            exact ⟨_, _, rfl, by trivial, HN.out _⟩
    · have HL : Hid (∀ m : Nat, m < 100 → s.data.toList = dd2 m → (0 : Int) = m) := fun m hm e => by
        exact absurd e (HX.out m hm)
      by_cases hs1 : (s.size : Int) - 1 < 1
      · go_enter Tryd.func37, Tryd.ntmps37
        go_wp2
        refine bodyPost_ret (v := .tuple #[.int .i64 0, .bool false]) (by simp [results, Tryd.results37, go_sem]) rfl ?_
        exact ⟨_, _, rfl, by trivial, HL.out⟩
      · have hs2 : (1 : Int) ≤ (s.size : Int) - 1 := by omega
        have hs3 : (9 : Int) < (s.size : Int) - 1 := by omega
        clear s1 hlen hnl hne h0
        go_enter Tryd.func37, Tryd.ntmps37
        go_wp2
        refine bodyPost_ret (v := .tuple #[.int .i64 0, .bool false]) (by simp [results, Tryd.results37, go_sem]) rfl ?_
        exact ⟨_, _, rfl, by trivial, HL.out⟩
  · have hng : (((s[0].toNat : Nat) : Int) == 45) = false := by simpa using hneg
    have s1 : ((s.size : Int) - 0 < 1) ∨ (9 < (s.size : Int) - 0) ∨ (1 ≤ (s.size : Int) - 0 ∧ (s.size : Int) - 0 ≤ 9) := by omega
    by_cases hlen : 0 + 1 ≤ s.size ∧ s.size ≤ 0 + 9
    · obtain ⟨hA, hB⟩ := hlen
      have hAi : (1 : Int) ≤ (s.size : Int) - 0 := by omega
      have hBi : (s.size : Int) - 0 ≤ 9 := by omega
      have hAj : (1 : Int) ≤ (s.size : Int) := by omega
      have hBj : (s.size : Int) ≤ 9 := by omega
      clear s1
      clear hnl hne h0
      go_enter Tryd.func37, Tryd.ntmps37
      go_wp2
      go_loopw [6, 7] (fun x q wr => ∃ (n : Int) (k : Nat), x = .int .i64 n ∧ q = .int .i64 k ∧ 0 ≤ k ∧ k ≤ s.size ∧ w = wr ∧ Hid (RN s.data.toList 0 k n)) (fun _ q _ => s.size - (intOf q).toNat)
      case atStart => exact ⟨0, 0, rfl, rfl, by omega, by omega, rfl, RN.zero _ _⟩
      case round =>
        obtain ⟨n, k, rfl, rfl, hik, hk, rfl, HR⟩ := hrel
        obtain ⟨hn0, hn9⟩ := HR.out.bound (by omega)
        by_cases hlt : k < s.size
        · have hlt9 : (k : Int) < (s.size : Int) := by omega
          have hkd : k < s.data.toList.length := by rw [hsz]; exact hlt
          have hek : s.data.toList[k] = s[k]'hlt := rfl
          have hqk := UInt8.toNat_lt (s[k]'hlt)
          have HS : Hid _ := HR.out.step hik hkd
          have HM : Hid ((s[k]'hlt) ∈ s.data.toList) := by show (s[k]'hlt) ∈ s.data.toList; rw [← hek]; exact List.getElem_mem hkd
          have HV : Hid (48 ≤ (s[k]'hlt).toNat → (s[k]'hlt).toNat ≤ 57 → RN s.data.toList 0 (k + 1) (n * 10 + (((s[k]'hlt).toNat : Int) - 48))) := fun h1 h2 => by have := HS.out (by rw [hek]; exact h1) (by rw [hek]; exact h2); rw [hek] at this; exact this
          have HB9 : Hid (¬ (48 ≤ (s[k]'hlt).toNat ∧ (s[k]'hlt).toNat ≤ 57) → ∀ m : Nat, m < 100 → s.data.toList = dd2 m → (0 : Int) = m) := fun hnn m hm e => absurd ((dd2_facts hm).2.1 (s[k]'hlt) (e ▸ HM.out)) hnn
          clear HS hek hkd HM
          by_cases hd : 48 ≤ (s[k]'hlt).toNat ∧ (s[k]'hlt).toNat ≤ 57
          · have hd1 : (48 : Int) ≤ (((s[k]'hlt).toNat : Nat) : Int) := by omega
            have hd2 : (((s[k]'hlt).toNat : Nat) : Int) ≤ 57 := by omega
            have HV2 := HV.out hd.1 hd.2
            have HV3 : Hid _ := HV2
            clear HV HV2 HB9
            go_wp2
            go_roundw
            case rel => exact ⟨_, k + 1, by go_num, by go_num, by omega, by omega, by trivial, HV3.out⟩
            case measure => simp [intOf]; omega
          · have hdi : ¬ ((48 : Int) ≤ (((s[k]'hlt).toNat : Nat) : Int) ∧ (((s[k]'hlt).toNat : Nat) : Int) ≤ 57) := by omega
            by_cases hd3 : (48 : Int) ≤ (((s[k]'hlt).toNat : Nat) : Int)
            · have hd4 : (57 : Int) < (((s[k]'hlt).toNat : Nat) : Int) := by omega
              go_wp2
              refine bodyPost_ret (v := .tuple #[.int .i64 0, .bool false]) (by simp [results, Tryd.results37, go_sem]) rfl ?_
              exact ⟨_, _, rfl, by trivial, HB9.out hd⟩
            · have hd4 : (((s[k]'hlt).toNat : Nat) : Int) < 48 := by omega
              go_wp2
              refine bodyPost_ret (v := .tuple #[.int .i64 0, .bool false]) (by simp [results, Tryd.results37, go_sem]) rfl ?_
              exact ⟨_, _, rfl, by trivial, HB9.out hd⟩
        · have hkk : k = s.size := by omega
          subst hkk
          have HN : Hid (∀ m : Nat, m < 100 → s.data.toList = dd2 m → n = m) := fun m hm e => by
            have h9 := HR.out.val rfl
            rw [List.take_of_length_le (by rw [hsz]; exact Nat.le_refl _), e, (dd2_facts hm).1] at h9
            exact h9
          have HZ : Hid (s[0].toNat = 48 → s.size ≠ 1 → ∀ m : Nat, m < 100 → s.data.toList = dd2 m → (0 : Int) = m) := fun hz h1 m hm e => by
            have h9 := (dd2_facts hm).2.2.2.2
            rw [← e, hsz] at h9
            refine absurd (h9 ?_) h1
            have h8 : s.data.toList.getD 0 0 = s[0] := by rw [List.getD_eq_getElem?_getD, List.getElem?_eq_getElem (by rw [hsz]; exact p0)]; rfl
            rw [h8]
            exact UInt8.toNat_inj.1 hz
          by_cases hz : ((s[0].toNat : Nat) : Int) = 48
          · by_cases h1 : s.size = 1
            · have h1i : (s.size : Int) ≤ 1 := by omega
              go_wp2
              refine bodyPost_ret (v := .tuple #[.int .i64 n, .bool true]) (by simp [results, Tryd.results37, go_sem]) rfl ?_
              exact ⟨_, _, rfl, by trivial, HN.out⟩
            · have h1i : (1 : Int) < (s.size : Int) := by omega
              have HZ2 : Hid _ := HZ.out (by omega) h1
              clear HZ
              go_wp2
              refine bodyPost_ret (v := .tuple #[.int .i64 0, .bool false]) (by simp [results, Tryd.results37, go_sem]) rfl ?_
              exact ⟨_, _, rfl, by trivial, HZ2.out⟩
          · go_wp2
            refine bodyPost_ret (v := .tuple #[.int .i64 n, .bool true]) (by simp [results, Tryd.results37, go_sem]) rfl ?_
            exact ⟨_, _, rfl, by trivial, HN.out⟩
    · have HL : Hid (∀ m : Nat, m < 100 → s.data.toList = dd2 m → (0 : Int) = m) := fun m hm e => by
        have h9 := (dd2_facts hm).2.2
        rw [← e, hsz] at h9
        omega
      by_cases hs1 : (s.size : Int) - 0 < 1
      · exact absurd hs1 (by omega)
      · have hs2 : (1 : Int) ≤ (s.size : Int) - 0 := by omega
        have hs3 : (9 : Int) < (s.size : Int) - 0 := by omega
        have hs4 : (9 : Int) < (s.size : Int) := by omega
        have hs5 : (1 : Int) ≤ (s.size : Int) := by omega
        clear s1 hlen hnl hne h0
        go_enter Tryd.func37, Tryd.ntmps37
        go_wp2
        refine bodyPost_ret (v := .tuple #[.int .i64 0, .bool false]) (by simp [results, Tryd.results37, go_sem]) rfl ?_
        exact ⟨_, _, rfl, by trivial, HL.out⟩

end Go.Proofs.YtjdmmpdcafbneaaDoor
