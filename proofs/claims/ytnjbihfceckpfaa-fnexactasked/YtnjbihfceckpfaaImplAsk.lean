/-
  Chapter 11: Asked, both sides.
-/
import Derived.Test.YtnjbihfceckpfaaSpecFacts
import Derived.Test.YtnjbihfceckpfaaImplFind
import Derived.Test.YtnjbihfceckpfaaCallsFn
namespace Go.Proofs.Ytnjbihfceckpfaa
open Go.RowKit
set_option linter.unusedVariables false
set_option linter.unusedSimpArgs false
set_option maxHeartbeats 4000000
set_option maxRecDepth 20000

/-- What Asked answers, of what Facts answers. -/
def askAns (A : List (List Int)) (p a f : Int) : Bool := decide (0 ≤ p ∧ p < A.length ∧ 0 ≤ a ∧ a < (A.getD p.toNat []).length ∧ 1 ≤ f ∧ f ≤ 6) && bit ((A.getD p.toNat []).getD a.toNat 0) f.toNat

theorem bit_pow {n t : Nat} (hn : n < 7) (ht : t < 7) : bit (2 ^ n) t = decide (t = n) := by
  have hc : n = 0 ∨ n = 1 ∨ n = 2 ∨ n = 3 ∨ n = 4 ∨ n = 5 ∨ n = 6 := by omega
  have hd : t = 0 ∨ t = 1 ∨ t = 2 ∨ t = 3 ∨ t = 4 ∨ t = 5 ∨ t = 6 := by omega
  rcases hc with rfl | rfl | rfl | rfl | rfl | rfl | rfl <;> rcases hd with rfl | rfl | rfl | rfl | rfl | rfl | rfl <;> decide

theorem pow_small {n : Nat} (hn : n < 7) : Small (2 ^ n) := by
  have hc : n = 0 ∨ n = 1 ∨ n = 2 ∨ n = 3 ∨ n = 4 ∨ n = 5 ∨ n = 6 := by omega
  rcases hc with rfl | rfl | rfl | rfl | rfl | rfl | rfl <;> exact ⟨by decide, by decide⟩

theorem has_one {a : Int} (ha : Small a) {n : Nat} (hn : n < 7) : (andN (2 ^ n) a == 0) = bit a n := by
  have hp := pow_small hn
  rw [Bool.eq_iff_iff]
  constructor
  · intro h
    have h0 : andN (2 ^ n) a = 0 := by simpa using h
    cases hb : bit a n with
    | true => rfl
    | false =>
      have := bit_andN hp ha n
      rw [h0, bit_zero, bit_pow hn hn, hb] at this
      simp at this
  · intro h
    have h0 : andN (2 ^ n) a = 0 := bit_eq (andN_small hp ha) small0 (fun t ht => by
      rw [bit_andN hp ha, bit_zero, bit_pow hn ht]
      by_cases e : t = n
      · subst e; simp [h]
      · simp [e])
    simp [h0]

theorem hasOne (a : Int) (ha : Small a) (n : Nat) (hn : n < 7) (w : World) : Calls Try.prog 58 #[.int .i64 a, .int .i64 (2 ^ n)] w fun e w' => e = .returned (.bool (bit a n)) ∧ w = w' := by
  have h : (bits .andNot .i64 (2 ^ n) a == 0) = bit a n := has_one ha hn
  obtain ⟨b, hb⟩ : ∃ b : Int, (2 : Int) ^ n = b := ⟨_, rfl⟩
  rw [hb] at h
  rw [hb]
  go_enter Try.func58, Try.ntmps58
  go_wp2
  go_ret
  exact ⟨by first | rfl | (rw [h]), rfl⟩

theorem ask_val {ps : List (List Stm)} {c : Int} {I J : Nat → Nat → List Int} {E F : List Int} {f : Int → Int → Option Int} (hp : CanP ps) (h : FA ps c I E) (hJ : InI c ps J) (hF : IsEnt c ps J F)
    (hah : ∀ i (hi : i < ps.length) k, k < ps[i].length → (f i k).getD 0 = img (J i k) (F.getD i 0)) (hout : ∀ i k : Int, f i k ≠ none → ∃ (a b : Nat) (ha : a < ps.length), b < ps[a].length ∧ i = a ∧ k = b) (p a : Int) :
    Small ((f p a).getD 0) ∧ ∀ n : Nat, 1 ≤ n → n ≤ 6 → bit ((f p a).getD 0) n = askAns (factL ps I E) p a n := by
  by_cases hex : ∃ (i k : Nat) (hi : i < ps.length), k < ps[i].length ∧ p = i ∧ a = k
  · obtain ⟨i, k, hi, hk, rfl, rfl⟩ := hex
    rw [hah i hi k hk, h.rows hp hJ hF hi hk]
    refine ⟨img_small (h.inn.good i hi k hk) _, fun n h1 h6 => ?_⟩
    have e1 : (factL ps I E).getD i [] = rowF I E i ps[i].length := by rw [List.getD_eq_getElem?_getD, factL_get hi]; rfl
    have e2 : (rowF I E i ps[i].length).getD k 0 = img (I i k) (E.getD i 0) := by simp [rowF, List.getD, hk]
    unfold askAns
    rw [Int.toNat_natCast, Int.toNat_natCast, Int.toNat_natCast, e1, e2, rowF_len, factL_len, decide_eq_true ⟨by omega, by omega, by omega, by omega, by omega, by omega⟩]
    rfl
  · have hn : f p a = none := Classical.byContradiction fun hne => by
      obtain ⟨i, k, hi, hk, h1, h2⟩ := hout p a hne
      exact hex ⟨i, k, hi, hk, h1, h2⟩
    rw [hn]
    refine ⟨small0, fun n h1 h6 => ?_⟩
    unfold askAns
    rw [decide_eq_false (fun hh => ?_)]
    · exact bit_zero n
    · obtain ⟨q1, q2, q3, q4, _⟩ := hh
      rw [factL_len] at q2
      have hi : p.toNat < ps.length := by omega
      have e1 : (factL ps I E).getD p.toNat [] = rowF I E p.toNat ps[p.toNat].length := by rw [List.getD_eq_getElem?_getD, factL_get hi]; rfl
      rw [e1, rowF_len] at q4
      exact hex ⟨p.toNat, a.toNat, hi, by omega, by omega, by omega⟩

theorem ask_out {A : List (List Int)} {p a f : Int} (h : f < 1 ∨ 7 ≤ f) : askAns A p a f = false := by
  unfold askAns
  rw [decide_eq_false (fun hh => by omega)]
  rfl
theorem ask_nil (p a f : Int) : askAns [] p a f = false := by
  unfold askAns
  rw [decide_eq_false (fun hh => by have := hh.2.1; have := hh.1; simp at *; omega)]
  rfl

theorem askedWith (ps : List (List Stm)) (c p a : Int) (n : Nat) (T : List (List Int)) (I : Nat → Nat → List Int) (E : List Int) (v : Value) (w : World) (hc : c = 1 ∨ c = 2) (hcp : CanP ps) (h1 : 1 ≤ ps.length) (h4 : ps.length ≤ 4) (hwp : Wf p) (hwa : Wf a) (hn1 : 1 ≤ n) (hn7 : n ≤ 6) (hT7 : Rows7 4 T) (hT : IsTables c ps T) (hI : FA ps c I E) (hv : ReadsP w v ps) :
    Calls Try.prog 52 #[.agg #[v], .int .i64 c, tabR T, .agg #[.int .i64 p, .int .i64 a], .int .i64 (n : Int)] w fun e w' => e = .returned (.bool (askAns (factL ps I E) p a n)) ∧ Below w.heap.size w w' := by
  have hn6 : n = 1 ∨ n = 2 ∨ n = 3 ∨ n = 4 ∨ n = 5 ∨ n = 6 := by omega
  have HT7 : Hid (Rows7 4 T) := hT7
  have HT : Hid (IsTables c ps T) := hT
  obtain ⟨ts, hts⟩ : ∃ ts, ints T.flatten = ts := ⟨_, rfl⟩
  have hta : tabR T = .agg ts.toArray := by rw [← hts]; rfl
  rw [hta]
  obtain ⟨W0, hW0⟩ : ∃ z, ((w.alloc (.cells #[v] 30)).alloc (.cells ts.toArray 88)).alloc (.cells #[.int .i64 p, .int .i64 a] 56) = z := ⟨_, rfl⟩
  have b0 : Below w.heap.size w W0 := by rw [← hW0]; go_grown
  have P0 : W0.heap[w.heap.size]? = some (.cells #[v] 30 (0, 0)) := by
    rw [← hW0, old_block (by simp; omega), old_block (by simp)]; exact heap_alloc_new w _
  have HTB : Hid (TabR W0 (w.heap.size + 1) 88 T) := by
    show TabR _ _ _ _
    unfold TabR
    rw [← hW0, hts, old_block (by simp)]
    have := heap_alloc_new (w.alloc (.cells #[v] 30)) (.cells ts.toArray 88)
    simpa using this
  have P2 : W0.heap[w.heap.size + 1 + 1]? = some (.cells #[.int .i64 p, .int .i64 a] 56 (0, 0)) := by
    rw [← hW0]
    have := heap_alloc_new ((w.alloc (.cells #[v] 30)).alloc (.cells ts.toArray 88)) (.cells #[.int .i64 p, .int .i64 a] 56)
    simpa using this
  have hv0 := hv
  obtain ⟨ao, cap, rfl, _⟩ := hv
  obtain ⟨c0, f0⟩ := one_cell P0
  obtain ⟨d0, d1⟩ := blk2 P2
  have z0 : w.heap.size < W0.heap.size := (Array.getElem?_eq_some_iff.1 P0).1
  have z2 : w.heap.size + 1 + 1 < W0.heap.size := (Array.getElem?_eq_some_iff.1 P2).1
  clear hts hta hT7 hT P0 P2
  have HW0 : Hid _ := hW0
  clear hW0
  go_enter Try.func52, Try.ntmps52
  go_wp2_with fail
  rw [HW0.out]
  clear HW0
  refine wp_region_held_drew (S := fun w' => w'.cell? ⟨w.heap.size, 0, none⟩ = some (.slice ao ps.length cap) ∧ TabR w' (w.heap.size + 1) 88 T ∧ w'.cell? ⟨w.heap.size + 1 + 1, 0, none⟩ = some (.int .i64 p) ∧ w'.cell? ⟨w.heap.size + 1 + 1, 1, none⟩ = some (.int .i64 a)) (by kernel_rfl) ⟨c0, HTB.out, d0, d1⟩ (fun hHeld => ?_)
  refine wpAnyH_take (i := 0) (oi := ?oiw0) (v := .agg #[.slice ao ps.length cap]) ?hiw0 (by kernel_rfl) (by kernel_rfl) (by kernel_rfl) ?hqw0 ?hyw0 hHeld ?hrw0
  case hiw0 =>
    simp only [List.getElem?_toArray, List.getElem?_cons_succ, List.getElem?_cons_zero]
    rfl
  case hqw0 => exact fun _ _ _ h => h
  case hyw0 => exact Or.inl ⟨by kernel_rfl, fun w hSw => by obtain ⟨s1, s2, s3, s4⟩ := hSw; go_simp⟩
  try simp only [Act.put, List.setIfInBounds_toArray, List.set_cons_zero, List.set_cons_succ]
  refine wpAnyH_take (i := 1) (oi := ?oiw1) (v := .int .i64 c) ?hiw1 (by kernel_rfl) (by kernel_rfl) (by kernel_rfl) ?hqw1 ?hyw1 hHeld ?hrw1
  case hiw1 =>
    simp only [List.getElem?_toArray, List.getElem?_cons_succ, List.getElem?_cons_zero]
    rfl
  case hqw1 => exact fun _ _ _ h => h
  case hyw1 => exact Or.inl ⟨by kernel_rfl, fun w hSw => by go_simp⟩
  try simp only [Act.put, List.setIfInBounds_toArray, List.set_cons_zero, List.set_cons_succ]
  refine wpAnyH_take (i := 2) (oi := ?oiw2) (v := tabR T) ?hiw2 (by kernel_rfl) (by kernel_rfl) (by kernel_rfl) ?hqw2 ?hyw2 hHeld ?hrw2
  case hiw2 =>
    simp only [List.getElem?_toArray, List.getElem?_cons_succ, List.getElem?_cons_zero]
    rfl
  case hqw2 => exact fun _ _ _ h => h
  case hyw2 => exact yieldsIf_load_mid (by kernel_rfl) 88 (.tmp 7) rfl (w.heap.size + 1) 0 rfl (ints T.flatten) _ (fun w hSw => hSw.2.1.range) isTab4.und rfl (by rw [isTab4.size, ints_length, HT7.out.flat])
  try simp only [Act.put, List.setIfInBounds_toArray, List.set_cons_zero, List.set_cons_succ]
  refine wpAnyH_take (i := 7) (oi := ?oiw7) (v := .agg #[.int .i64 p, .int .i64 a]) ?hiw7 (by kernel_rfl) (by kernel_rfl) (by kernel_rfl) ?hqw7 ?hyw7 hHeld ?hrw7
  case hiw7 =>
    simp only [List.getElem?_toArray, List.getElem?_cons_succ, List.getElem?_cons_zero]
    rfl
  case hqw7 => exact fun _ _ _ h => h
  case hyw7 => exact Or.inl ⟨by kernel_rfl, fun w hSw => by obtain ⟨s1, s2, s3, s4⟩ := hSw; go_simp⟩
  try simp only [Act.put, List.setIfInBounds_toArray, List.set_cons_zero, List.set_cons_succ]
  refine wpAnyH_take (i := 9) (oi := ?oiw9) (v := .int .i64 (n : Int)) ?hiw9 (by kernel_rfl) (by kernel_rfl) (by kernel_rfl) ?hqw9 ?hyw9 hHeld ?hrw9
  case hiw9 =>
    simp only [List.getElem?_toArray, List.getElem?_cons_succ, List.getElem?_cons_zero]
    rfl
  case hqw9 => exact fun _ _ _ h => h
  case hyw9 => exact Or.inl ⟨by kernel_rfl, fun w hSw => by go_simp⟩
  try simp only [Act.put, List.setIfInBounds_toArray, List.set_cons_zero, List.set_cons_succ]
  refine wpAnyH_take (i := 10) (oi := ?oiw10) (v := .int .i64 (2 ^ n)) ?hiw10 (by kernel_rfl) (by kernel_rfl) (by kernel_rfl) ?hqw10 ?hyw10 hHeld ?hrw10
  case hiw10 =>
    simp only [List.getElem?_toArray, List.getElem?_cons_succ, List.getElem?_cons_zero]
    rfl
  case hqw10 => exact fun _ _ _ h => h
  case hyw10 => exact Or.inl ⟨by kernel_rfl, fun w hSw => by rcases hn6 with rfl | rfl | rfl | rfl | rfl | rfl <;> (go_simp <;> rfl)⟩
  try simp only [Act.put, List.setIfInBounds_toArray, List.set_cons_zero, List.set_cons_succ]
  refine wpAnyH_ready (rs := [3]) (by kernel_rfl) (by simp) ?_
  refine (AllReadyH.cons (o := ?oow3) ?how3 (fun K hK => ?hkw3) AllReadyH.nil)
  case how3 =>
    simp only [List.getElem?_toArray, List.getElem?_cons_succ, List.getElem?_cons_zero]
    rfl
  case hkw3 =>
    go_simp
    go_at_call 77
    refine (findingsWith ps c T _ W0.drew hc hcp h1 h4 HT7.out HT.out (readsP_below hv0 (Below.drew b0))).mono ?_
    rintro e w2 ⟨gs, G, AA, WW, nA, nW, E2, f, g, rfl, hgs, hin, hent, hE4, hF, hap, hah, hout⟩
    have B2 : Hid (Below W0.heap.size W0 w2) := (Below.drew (Below.refl W0.heap.size W0)).trans hF.bl
    have hmA := hF.fb.mA hgs hE4
    have hlk := hF.a.lookup hwp hwa
    have HSV := ask_val (I := I) (E := E) hcp hI hin hent hah hout p a
    have hsv9 := HSV.1
    generalize hxv : (f p a).getD 0 = xv at *
    unfold plV at hlk
    clear hF hah hout hin hent hap
    try go_wp2_with fail
    refine hK.out _ _ ⟨(B2.out.cell z0).trans c0, TabR.below HTB.out B2.out, (B2.out.cell z2).trans d0, (B2.out.cell z2).trans d1⟩ (fun hHeld => ?_)
    clear hK K
    try simp only [Act.put, List.setIfInBounds_toArray, List.set_cons_zero, List.set_cons_succ]
    refine wpAnyH_take (i := 4) (oi := ?oiw4) (v := .pointer (some ⟨G, 0, none⟩)) ?hiw4 (by kernel_rfl) (by kernel_rfl) (by kernel_rfl) ?hqw4 ?hyw4 hHeld ?hrw4
    case hiw4 =>
      simp only [List.getElem?_toArray, List.getElem?_cons_succ, List.getElem?_cons_zero]
      rfl
    case hqw4 => exact fun _ _ _ h => h
    case hyw4 => exact Or.inl ⟨by kernel_rfl, fun w hSw => by go_simp⟩
    try simp only [Act.put, List.setIfInBounds_toArray, List.set_cons_zero, List.set_cons_succ]
    refine wpAnyH_take (i := 5) (oi := ?oiw5) (v := .pointer (some ⟨G, 341, none⟩)) ?hiw5 (by kernel_rfl) (by kernel_rfl) (by kernel_rfl) ?hqw5 ?hyw5 hHeld ?hrw5
    case hiw5 =>
      simp only [List.getElem?_toArray, List.getElem?_cons_succ, List.getElem?_cons_zero]
      rfl
    case hqw5 => exact fun _ _ _ h => h
    case hyw5 => exact Or.inl ⟨by kernel_rfl, fun w hSw => by go_simp⟩
    try simp only [Act.put, List.setIfInBounds_toArray, List.set_cons_zero, List.set_cons_succ]
    refine wpAnyH_ready (rs := [6]) (by kernel_rfl) (by simp) ?_
    refine (AllReadyH.cons (o := ?oow6) ?how6 (fun K hK => ?hkw6) AllReadyH.nil)
    case how6 =>
      simp only [List.getElem?_toArray, List.getElem?_cons_succ, List.getElem?_cons_zero]
      rfl
    case hkw6 =>
      go_simp
      try go_wp2_with fail
      refine hK.out _ _ hHeld (fun hHeld => ?_)
      clear hK K
      try simp only [Act.put, List.setIfInBounds_toArray, List.set_cons_zero, List.set_cons_succ]
      refine wpAnyH_ready (rs := [8]) (by kernel_rfl) (by simp) ?_
      refine (AllReadyH.cons (o := ?oow8) ?how8 (fun K hK => ?hkw8) AllReadyH.nil)
      case how8 =>
        simp only [List.getElem?_toArray, List.getElem?_cons_succ, List.getElem?_cons_zero]
        rfl
      case hkw8 =>
        go_simp
        try go_wp2_with fail
        refine hK.out _ _ hHeld (fun hHeld => ?_)
        clear hK K
        try simp only [Act.put, List.setIfInBounds_toArray, List.set_cons_zero, List.set_cons_succ]
        refine wpAnyH_ready (rs := [11]) (by kernel_rfl) (by simp) ?_
        refine (AllReadyH.cons (o := ?oow11) ?how11 (fun K hK => ?hkw11) AllReadyH.nil)
        case how11 =>
          simp only [List.getElem?_toArray, List.getElem?_cons_succ, List.getElem?_cons_zero]
          rfl
        case hkw11 =>
          go_simp
          go_at_call 58
          refine (hasOne xv hsv9 n (by omega) w2).mono ?_
          rintro e w3 ⟨rfl, rfl⟩
          try go_wp2_with fail
          refine hK.out _ _ hHeld (fun hHeld => ?_)
          clear hK K
          try simp only [Act.put, List.setIfInBounds_toArray, List.set_cons_zero, List.set_cons_succ]
          refine wpAnyH_take (i := 12) (oi := ?oiw12) (v := .bool (bit xv n)) ?hiw12 (by kernel_rfl) (by kernel_rfl) (by kernel_rfl) ?hqw12 ?hyw12 hHeld ?hrw12
          case hiw12 =>
            simp only [List.getElem?_toArray, List.getElem?_cons_succ, List.getElem?_cons_zero]
            rfl
          case hqw12 => exact fun _ _ _ h => h
          case hyw12 => exact Or.inl ⟨by kernel_rfl, fun w hSw => by go_simp⟩
          try simp only [Act.put, List.setIfInBounds_toArray, List.set_cons_zero, List.set_cons_succ]
          refine wpAnyH_done (by kernel_rfl) ?_ _
          go_wp2_with fail
          go_ret
          exact ⟨by rw [← HSV.2 n hn1 hn7]; rfl, b0.trans (B2.out.mono b0.size)⟩

theorem implAsked (ps : List (List Stm)) (c p a f : Int) (hwp : Wf p) (hwa : Wf a) (A : List (List Int)) (hA : FactA ps c A) (v : Value) (w : World) (hl : ps.length ≤ maxLen) (hp : ∀ p ∈ ps, p.length ≤ maxLen) (hv : ReadsP w v ps) :
    Calls Try.prog 24 #[.agg #[v], .int .i64 c, .int .i64 p, .int .i64 a, .int .i64 f] w fun e w' => e = .returned (.bool (askAns A p a f)) ∧ Below w.heap.size w w' := by
  have b0 : Below w.heap.size w (w.alloc (.cells #[v] 30)) := by go_grown
  have hP0 := heap_alloc_new w (.cells #[v] 30)
  have s0 : (w.alloc (.cells #[v] 30)).heap.size = w.heap.size + 1 := by simp
  have hcs := canSum ps c v (w.alloc (.cells #[v] 30)) hl hp (readsP_below hv b0)
  cases ho : okB ps c with
  | false =>
    rw [hA.2 ho, ask_nil]
    rw [ho] at hcs
    go_enter Try.func24, Try.ntmps24
    go_wp2_with (go_at_call 44; refine hcs.mono ?_; rintro e w1 ⟨rfl, b1⟩)
    go_ret
    exact ⟨rfl, b0.trans (b1.mono (by omega))⟩
  | true =>
    rw [ho] at hcs
    obtain ⟨I, E, hI, rfl⟩ := hA.1 ho
    obtain ⟨_, hc, hcp, h4⟩ := okB_parts ho
    have h1 := ok_one ho
    by_cases hlo : f < 1
    · rw [ask_out (.inl hlo)]
      go_enter Try.func24, Try.ntmps24
      go_wp2_with (go_at_call 44; refine hcs.mono ?_; rintro e w1 ⟨rfl, b1⟩)
      go_ret
      exact ⟨rfl, b0.trans (b1.mono (by omega))⟩
    by_cases hhi : 7 ≤ f
    · rw [ask_out (.inr hhi)]
      go_enter Try.func24, Try.ntmps24
      go_wp2_with (go_at_call 44; refine hcs.mono ?_; rintro e w1 ⟨rfl, b1⟩)
      go_ret
      exact ⟨rfl, b0.trans (b1.mono (by omega))⟩
    obtain ⟨n, rfl⟩ : ∃ n : Nat, f = n := ⟨f.toNat, by omega⟩
    have hn6 : n = 1 ∨ n = 2 ∨ n = 3 ∨ n = 4 ∨ n = 5 ∨ n = 6 := by omega
    have hn1 : 1 ≤ n := by omega
    have hn7 : n ≤ 6 := by omega
    obtain ⟨ao, cap, rfl, _⟩ := id hv
    have htab := fun W (hW : Below w.heap.size w W) => tablesOf ps c _ W hc hcp h4 (readsP_below hv hW)
    go_enter Try.func24, Try.ntmps24
    go_wp2_with fail
    go_at_call 44
    refine hcs.mono ?_
    rintro e w1 ⟨rfl, b1⟩
    have L1 := b0.trans (b1.mono (by omega))
    have P1 := (b1.block w.heap.size (by omega)).trans hP0
    obtain ⟨c1, f1⟩ := one_cell P1
    have z1 : w.heap.size < w1.heap.size := (Array.getElem?_eq_some_iff.1 P1).1
    go_wp2_with fail
    --HELD a
    refine wp_region_held_drew (S := fun w' => w'.cell? ⟨w.heap.size, 0, none⟩ = some (.slice ao ps.length cap)) (by kernel_rfl) c1 (fun hHeld => ?_)
    refine wpAnyH_take (i := 0) (oi := ?oik0) (v := .agg #[.slice ao ps.length cap]) ?hik0 (by kernel_rfl) (by kernel_rfl) (by kernel_rfl) ?hqk0 ?hyk0 hHeld ?hrk0
    case hik0 =>
      simp only [List.getElem?_toArray, List.getElem?_cons_succ, List.getElem?_cons_zero]
      rfl
    case hqk0 => exact fun _ _ _ h => h
    case hyk0 => exact Or.inl ⟨by kernel_rfl, fun w hSw => by have s1 := hSw; go_simp⟩
    try simp only [Act.put, List.setIfInBounds_toArray, List.set_cons_zero, List.set_cons_succ]
    refine wpAnyH_take (i := 1) (oi := ?oik1) (v := .int .i64 c) ?hik1 (by kernel_rfl) (by kernel_rfl) (by kernel_rfl) ?hqk1 ?hyk1 hHeld ?hrk1
    case hik1 =>
      simp only [List.getElem?_toArray, List.getElem?_cons_succ, List.getElem?_cons_zero]
      rfl
    case hqk1 => exact fun _ _ _ h => h
    case hyk1 => exact Or.inl ⟨by kernel_rfl, fun w hSw => by go_simp⟩
    try simp only [Act.put, List.setIfInBounds_toArray, List.set_cons_zero, List.set_cons_succ]
    refine wpAnyH_take (i := 2) (oi := ?oik2) (v := .agg #[.slice ao ps.length cap]) ?hik2 (by kernel_rfl) (by kernel_rfl) (by kernel_rfl) ?hqk2 ?hyk2 hHeld ?hrk2
    case hik2 =>
      simp only [List.getElem?_toArray, List.getElem?_cons_succ, List.getElem?_cons_zero]
      rfl
    case hqk2 => exact fun _ _ _ h => h
    case hyk2 => exact Or.inl ⟨by kernel_rfl, fun w hSw => by have s1 := hSw; go_simp⟩
    try simp only [Act.put, List.setIfInBounds_toArray, List.set_cons_zero, List.set_cons_succ]
    refine wpAnyH_take (i := 3) (oi := ?oik3) (v := .int .i64 c) ?hik3 (by kernel_rfl) (by kernel_rfl) (by kernel_rfl) ?hqk3 ?hyk3 hHeld ?hrk3
    case hik3 =>
      simp only [List.getElem?_toArray, List.getElem?_cons_succ, List.getElem?_cons_zero]
      rfl
    case hqk3 => exact fun _ _ _ h => h
    case hyk3 => exact Or.inl ⟨by kernel_rfl, fun w hSw => by go_simp⟩
    try simp only [Act.put, List.setIfInBounds_toArray, List.set_cons_zero, List.set_cons_succ]
    refine wpAnyH_take (i := 5) (oi := ?oik5) (v := .int .i64 p) ?hik5 (by kernel_rfl) (by kernel_rfl) (by kernel_rfl) ?hqk5 ?hyk5 hHeld ?hrk5
    case hik5 =>
      simp only [List.getElem?_toArray, List.getElem?_cons_succ, List.getElem?_cons_zero]
      rfl
    case hqk5 => exact fun _ _ _ h => h
    case hyk5 => exact Or.inl ⟨by kernel_rfl, fun w hSw => by go_simp⟩
    try simp only [Act.put, List.setIfInBounds_toArray, List.set_cons_zero, List.set_cons_succ]
    refine wpAnyH_take (i := 6) (oi := ?oik6) (v := .int .i64 a) ?hik6 (by kernel_rfl) (by kernel_rfl) (by kernel_rfl) ?hqk6 ?hyk6 hHeld ?hrk6
    case hik6 =>
      simp only [List.getElem?_toArray, List.getElem?_cons_succ, List.getElem?_cons_zero]
      rfl
    case hqk6 => exact fun _ _ _ h => h
    case hyk6 => exact Or.inl ⟨by kernel_rfl, fun w hSw => by go_simp⟩
    try simp only [Act.put, List.setIfInBounds_toArray, List.set_cons_zero, List.set_cons_succ]
    refine wpAnyH_take (i := 7) (oi := ?oik7) (v := .agg #[.int .i64 p, .int .i64 a]) ?hik7 (by kernel_rfl) (by kernel_rfl) (by kernel_rfl) ?hqk7 ?hyk7 hHeld ?hrk7
    case hik7 =>
      simp only [List.getElem?_toArray, List.getElem?_cons_succ, List.getElem?_cons_zero]
      rfl
    case hqk7 => exact fun _ _ _ h => h
    case hyk7 => exact Or.inl ⟨by kernel_rfl, fun w hSw => by go_simp⟩
    try simp only [Act.put, List.setIfInBounds_toArray, List.set_cons_zero, List.set_cons_succ]
    refine wpAnyH_take (i := 8) (oi := ?oik8) (v := .int .i64 (n : Int)) ?hik8 (by kernel_rfl) (by kernel_rfl) (by kernel_rfl) ?hqk8 ?hyk8 hHeld ?hrk8
    case hik8 =>
      simp only [List.getElem?_toArray, List.getElem?_cons_succ, List.getElem?_cons_zero]
      rfl
    case hqk8 => exact fun _ _ _ h => h
    case hyk8 => exact Or.inl ⟨by kernel_rfl, fun w hSw => by go_simp⟩
    try simp only [Act.put, List.setIfInBounds_toArray, List.set_cons_zero, List.set_cons_succ]
    refine wpAnyH_ready (rs := [4]) (by kernel_rfl) (by simp) ?_
    refine (AllReadyH.cons (o := ?ook4) ?hok4 (fun K hK => ?hkk4) AllReadyH.nil)
    case hok4 =>
      simp only [List.getElem?_toArray, List.getElem?_cons_succ, List.getElem?_cons_zero]
      rfl
    case hkk4 =>
      go_simp
      go_at_call 53
      refine (htab w1.drew (Below.drew L1)).mono ?_
      rintro e w2 ⟨T, rfl, hT7, hT, b2⟩
      have B2 : Hid (Below w1.heap.size w1 w2) := (Below.drew (Below.refl w1.heap.size w1)).trans b2
      have HT7 : Hid (Rows7 4 T) := hT7
      have HT : Hid (IsTables c ps T) := hT
      clear b2 hT7 hT
      try go_wp2_with fail
      refine hK.out _ _ ((B2.out.cell z1).trans c1) (fun hHeld => ?_)
      clear hK K
      try simp only [Act.put, List.setIfInBounds_toArray, List.set_cons_zero, List.set_cons_succ]
      refine wpAnyH_ready (rs := [9]) (by kernel_rfl) (by simp) ?_
      refine (AllReadyH.cons (o := ?ook9) ?hok9 (fun K hK => ?hkk9) AllReadyH.nil)
      case hok9 =>
        simp only [List.getElem?_toArray, List.getElem?_cons_succ, List.getElem?_cons_zero]
        rfl
      case hkk9 =>
        go_simp
        go_at_call 52
        refine (askedWith ps c p a n T I E _ w2 hc hcp h1 h4 hwp hwa hn1 hn7 HT7.out HT.out hI (readsP_below hv (L1.trans (B2.out.mono L1.size)))).mono ?_
        rintro e w3 ⟨rfl, b3⟩
        have B3 : Hid (Below w1.heap.size w1 w3) := B2.out.trans (b3.mono B2.out.size)
        clear b3
        try go_wp2_with fail
        refine hK.out _ _ ((B3.out.cell z1).trans c1) (fun hHeld => ?_)
        clear hK K
        try simp only [Act.put, List.setIfInBounds_toArray, List.set_cons_zero, List.set_cons_succ]
        refine wpAnyH_take (i := 10) (oi := ?oik10) (v := .bool (askAns (factL ps I E) p a n)) ?hik10 (by kernel_rfl) (by kernel_rfl) (by kernel_rfl) ?hqk10 ?hyk10 hHeld ?hrk10
        case hik10 =>
          simp only [List.getElem?_toArray, List.getElem?_cons_succ, List.getElem?_cons_zero]
          rfl
        case hqk10 => exact fun _ _ _ h => h
        case hyk10 => exact Or.inl ⟨by kernel_rfl, fun w hSw => by go_simp⟩
        try simp only [Act.put, List.setIfInBounds_toArray, List.set_cons_zero, List.set_cons_succ]
        refine wpAnyH_done (by kernel_rfl) ?_ _
        go_wp2_with fail
        go_ret
        exact ⟨rfl, L1.trans (B3.out.mono L1.size)⟩

def atB (ps : List (List Stm)) (p a : Int) : Bool := hasB ps p && inB a 0 ((ps.getD p.toNat []).length - 1)

theorem hasB_at {ps : List (List Stm)} {i : Int} (h : hasB ps i = true) : programOk ps = true ∧ ∃ (j : Nat), i = (j : Int) ∧ j < ps.length := by
  unfold hasB wiB at h
  simp only [Bool.and_eq_true, decide_eq_true_eq] at h
  exact ⟨h.1, i.toNat, by omega, by omega⟩

theorem l11At (ps : List (List Stm)) (p a : Int) (v : Value) (w : World) (hl : ps.length ≤ maxLen) (hp : ∀ p ∈ ps, p.length ≤ maxLen) (hv : ReadsP w v ps) :
    Calls Try.prog 50 #[.agg #[v], .int .i64 p, .int .i64 a] w fun e w' => e = .returned (.bool (atB ps p a)) ∧ Below w.heap.size w w' := by
  have hb0 : Below w.heap.size w (w.alloc (.cells #[v] 30)) := by go_grown
  have H0 := heap_alloc_new w (.cells #[v] 30)
  have s0 : (w.alloc (.cells #[v] 30)).heap.size = w.heap.size + 1 := by simp
  have h3 := l3In ps p v _ hl hp (readsP_below hv hb0)
  have hin := fun lo hi W => l1In a lo hi W
  cases hB : hasB ps p
  · have e : atB ps p a = false := by unfold atB; rw [hB]; rfl
    rw [e]
    rw [hB] at h3
    go_enter Try.func50, Try.ntmps50
    go_wp2_with (go_at_call 80; refine h3.mono ?_; rintro e w2 ⟨rfl, b2⟩)
    go_ret
    exact ⟨rfl, hb0.trans (b2.mono hb0.size)⟩
  · rw [hB] at h3
    obtain ⟨_, j, rfl, hj⟩ := hasB_at hB
    have hj' : (j : Int) < (ps.length : Int) := by omega
    have e : atB ps j a = inB a 0 ((ps[j].length : Int) - 1) := by unfold atB; rw [hB]; simp [List.getD, hj]
    rw [e]
    have hlen := hp ps[j] (List.getElem_mem hj)
    obtain ⟨ao, cap, rfl, hcell⟩ := id hv
    obtain ⟨gp, op, u, rfl, hu0, au, cu, rfl, _⟩ := hcell j ps[j] (by simp [hj])
    have hwr : wrap64 ((ps[j].length : Int) - 1) = (ps[j].length : Int) - 1 := by unfold wrap64; unfold maxLen at hlen; omega
    generalize ps[j].length = m at *
    go_enter Try.func50, Try.ntmps50
    go_wp2_with fail
    go_at_call 80
    refine h3.mono ?_
    rintro e w2 ⟨rfl, b2⟩
    have L2 := hb0.trans (b2.mono hb0.size)
    have P2 := (b2.block w.heap.size (by omega)).trans H0
    obtain ⟨c2, f2⟩ := one_cell P2
    have hu := (L2.cell (World.block_lt_of_cell? w _ hu0)).trans hu0
    go_wp2_with (go_at_call 51; refine (hin _ _ _).mono ?_; rintro e w3 ⟨rfl, rfl⟩)
    go_ret
    exact ⟨rfl, L2⟩

theorem at_ask {ps : List (List Stm)} {c : Int} {A : List (List Int)} (hA : FactA ps c A) {p a : Int} (h : atB ps p a = false) (f : Int) : askAns A p a f = false := by
  cases ho : okB ps c with
  | false => rw [hA.2 ho, ask_nil]
  | true =>
    obtain ⟨I, E, hI, rfl⟩ := hA.1 ho
    have hpo := (okB_parts ho).1
    unfold askAns
    rw [decide_eq_false (fun hh => ?_)]
    · rfl
    · obtain ⟨q1, q2, q3, q4, _⟩ := hh
      rw [factL_len] at q2
      have hi : p.toNat < ps.length := by omega
      have e1 : (factL ps I E).getD p.toNat [] = rowF I E p.toNat ps[p.toNat].length := by rw [List.getD_eq_getElem?_getD, factL_get hi]; rfl
      rw [e1, rowF_len] at q4
      have : atB ps p a = true := by
        unfold atB hasB wiB inB
        simp [hpo, List.getD, hi]
        omega
      rw [this] at h
      cases h

theorem specAsked (ps : List (List Stm)) (c p a f : Int) (A : List (List Int)) (hA : FactA ps c A) (v : Value) (w : World) (hl : ps.length ≤ maxLen) (hp : ∀ p ∈ ps, p.length ≤ maxLen) (hv : ReadsP w v ps) :
    Calls Try.prog 23 #[.agg #[v], .int .i64 c, .int .i64 p, .int .i64 a, .int .i64 f] w fun e w' => e = .returned (.bool (askAns A p a f)) ∧ Below w.heap.size w w' := by
  have hb0 : Below w.heap.size w (w.alloc (.cells #[v] 30)) := by go_grown
  have H0 := heap_alloc_new w (.cells #[v] 30)
  have s0 : (w.alloc (.cells #[v] 30)).heap.size = w.heap.size + 1 := by simp
  have hat := l11At ps p a v _ hl hp (readsP_below hv hb0)
  have hcl := l7Client c
  have hin := fun W => l1In f 1 6 W
  cases hB : atB ps p a
  · rw [at_ask hA hB]
    rw [hB] at hat
    go_enter Try.func23, Try.ntmps23
    go_wp2_with (go_at_call 50; refine hat.mono ?_; rintro e w2 ⟨rfl, b2⟩)
    go_ret
    exact ⟨rfl, hb0.trans (b2.mono hb0.size)⟩
  rw [hB] at hat
  by_cases h2 : c = 1 ∨ c = 2
  · rw [decide_eq_true h2] at hcl
    by_cases h6 : 1 ≤ f ∧ f ≤ 6
    · have e6 : inB f 1 6 = true := by simp [inB, h6]
      rw [e6] at hin
      unfold atB at hB
      simp only [Bool.and_eq_true] at hB
      obtain ⟨hpo, i, rfl, hi⟩ := hasB_at hB.1
      have ho : okB ps c = true := by simp [okB, hpo, h2]
      obtain ⟨I, E, hI, rfl⟩ := hA.1 ho
      obtain ⟨n, rfl⟩ : ∃ n : Nat, f = n := ⟨f.toNat, by omega⟩
      have hak : 0 ≤ a ∧ a < (ps[i].length : Int) := by
        have := hB.2
        unfold inB at this
        simp [List.getD, hi] at this
        omega
      obtain ⟨k, rfl⟩ : ∃ k : Nat, a = k := ⟨a.toNat, by omega⟩
      have hk : k < ps[i].length := by omega
      have e1 : (factL ps I E).getD i [] = rowF I E i ps[i].length := by rw [List.getD_eq_getElem?_getD, factL_get hi]; rfl
      have e2 : (rowF I E i ps[i].length).getD k 0 = img (I i k) (E.getD i 0) := by simp [rowF, List.getD, hk]
      have eA : askAns (factL ps I E) i k n = bit (img (I i k) (E.getD i 0)) n := by
        unfold askAns
        rw [Int.toNat_natCast, Int.toNat_natCast, Int.toNat_natCast, e1, e2, rowF_len, factL_len, decide_eq_true ⟨by omega, by omega, by omega, by omega, by omega, by omega⟩]
        rfl
      rw [eA]
      have hxs : Small (img (I i k) (E.getD i 0)) := img_small (hI.inn.good i hi k hk) _
      obtain ⟨x, hx⟩ : ∃ x, img (I i k) (E.getD i 0) = x := ⟨_, rfl⟩
      rw [hx] at hxs e2
      rw [hx]
      have hbt := bit_tmod n hxs
      have hff := fun W hW => specFacts ps c (factL ps I E) hA v W hl hp (readsP_below hv hW)
      have hi' : (i : Int) < (ps.length : Int) := by omega
      have hk' : (k : Int) < (ps[i].length : Int) := by omega
      have hn6 : n = 1 ∨ n = 2 ∨ n = 3 ∨ n = 4 ∨ n = 5 ∨ n = 6 := by omega
      go_enter Try.func23, Try.ntmps23
      go_wp2_with fail
      go_at_call 50
      refine hat.mono ?_
      rintro e w2 ⟨rfl, b2⟩
      have L2 := hb0.trans (b2.mono hb0.size)
      have P2 := (b2.block w.heap.size (by omega)).trans H0
      obtain ⟨c2, f2⟩ := one_cell P2
      go_wp2_with (first
        | (go_at_call 40; refine (hcl _).mono ?_; rintro e w3 ⟨rfl, rfl⟩)
        | (go_at_call 51; refine (hin _).mono ?_; rintro e w3 ⟨rfl, rfl⟩)
        | (go_at_call 18; refine (hff _ L2).mono ?_; rintro e w4 ⟨u4, us4, rfl, o4, b4⟩; refine stop_of ?_))
      unfold Stop
      obtain ⟨a4, c4, hu4, hrd⟩ := o4.reads
      rw [factL_len] at hu4
      subst hu4
      obtain ⟨g4, p4, v4, rfl, hc4, hR4⟩ := hrd i (rowF I E i ps[i].length) (factL_get hi)
      obtain ⟨a5, c5, hv4, hcx⟩ := hR4
      rw [ints_length, rowF_len] at hv4
      subst hv4
      obtain ⟨g5, p5, rfl, hc5⟩ := hcx k (.int .i64 x) (by rw [← e2]; simp [ints, List.getD, rowF_len, hk])
      have hL4 := L2.trans (b4.mono L2.size)
      clear hrd hcx hff o4 b4 hat hcl hin
      rcases hn6 with rfl | rfl | rfl | rfl | rfl | rfl
      all_goals
        go_wp2_with fail
        go_ret
        refine ⟨congrArg (fun b => Ending.returned (.bool b)) ?_, hL4⟩
        simp only [Int.reducePow] at hbt
        rw [hbt]
        split <;> simp_all
    · have e6 : inB f 1 6 = false := by
        unfold inB
        by_cases h : 1 ≤ f
        · simp; omega
        · simp; omega
      rw [e6] at hin
      rw [ask_out (by omega)]
      go_enter Try.func23, Try.ntmps23
      go_wp2_with (first
        | (go_at_call 50; refine hat.mono ?_; rintro e w2 ⟨rfl, b2⟩)
        | (go_at_call 40; refine (hcl _).mono ?_; rintro e w3 ⟨rfl, rfl⟩)
        | (go_at_call 51; refine (hin _).mono ?_; rintro e w3 ⟨rfl, rfl⟩))
      go_ret
      exact ⟨rfl, hb0.trans (b2.mono hb0.size)⟩
  · have ho : okB ps c = false := by simp [okB, h2]
    rw [hA.2 ho, ask_nil]
    rw [decide_eq_false h2] at hcl
    go_enter Try.func23, Try.ntmps23
    go_wp2_with (first
      | (go_at_call 50; refine hat.mono ?_; rintro e w2 ⟨rfl, b2⟩)
      | (go_at_call 40; refine (hcl _).mono ?_; rintro e w3 ⟨rfl, rfl⟩))
    go_ret
    exact ⟨rfl, hb0.trans (b2.mono hb0.size)⟩

end Go.Proofs.Ytnjbihfceckpfaa
