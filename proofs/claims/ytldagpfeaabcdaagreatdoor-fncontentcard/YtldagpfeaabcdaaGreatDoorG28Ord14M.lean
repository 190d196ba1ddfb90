/-
 Put together out of: DrawEd2, Size, CallsFn, BeforeBoth, Ord14M.
-/
import Derived.Test.YtldagpfeaabcdaaGreatDoorDrawEd
namespace Go.Proofs.YtldagpfeaabcdaaGreatDoor
open Go.RowKit
set_option linter.unusedVariables false
set_option linter.unusedSimpArgs false
set_option maxHeartbeats 4000000
set_option maxRecDepth 20000
end Go.Proofs.YtldagpfeaabcdaaGreatDoor
namespace Go.Proofs.YtldagpfeaabcdaaGreatDoor
open Go.RowKit
set_option linter.unusedVariables false
set_option maxHeartbeats 1000000
def sumLen : List (List Stm) → Nat
 | [] => 0
 | p :: ps => p.length + sumLen ps
def sizeOf3 (ps : List (List Stm)) : Int := if ja5 ps then (sumLen ps : Int) else -1
theorem jc1 {ps : List (List Stm)} (h : ja5 ps = true) : ps.length ≤ 4 ∧ 1 ≤ ps.length ∧ ∀ p ∈ ps, je7 p = true ∧ p.all (ji5 ps.length) = true := by
 unfold ja5 at h
 simp only [Bool.and_eq_true, decide_eq_true_eq] at h
 refine ⟨h.1.2, h.1.1, fun p hp => ?_⟩
 have := List.all_eq_true.1 h.2 p hp
 unfold jj7 at this
 simpa [Bool.and_eq_true] using this
theorem jj5 {p : List Stm} (h : je7 p = true) : p.length ≤ 12 := by
 unfold je7 at h
 simp only [Bool.and_eq_true, decide_eq_true_eq] at h
 exact h.1.1.2
end Go.Proofs.YtldagpfeaabcdaaGreatDoor
namespace Go.Proofs.YtldagpfeaabcdaaGreatDoor
open Go.RowKit
set_option linter.unusedVariables false
set_option maxHeartbeats 1000000
def hasB (ps : List (List Stm)) (i : Int) : Bool := ja5 ps && wiB i ps.length
theorem l3In (ps : List (List Stm)) (i : Int) (v : Value) (w : World) (hl : ps.length ≤ maxLen) (hp : ∀ p ∈ ps, p.length ≤ maxLen) (hv : jb5 w v ps) :
 Calls Tryz.prog 33 #[.agg #[v], .int .i64 i] w fun e w' => e = .returned (.bool (hasB ps i)) ∧ Below w.heap.size w w' := by
 have hb0 : Below w.heap.size w (w.alloc (.cells #[v] 26)) := by go_grown
 have he := ji0 ps v _ hl hp (ja0 hv hb0)
 have H0 := heap_alloc_new w (.cells #[v] 26)
 have s0 : (w.alloc (.cells #[v] 26)).heap.size = w.heap.size + 1 := by simp
 unfold maxLen at hl
 unfold hasB
 cases hok : ja5 ps
 · rw [hok] at he
   clear hv
   go_enter Tryz.func33, Tryz.ntmps33
   go_wp2_with (go_at_call 32; refine he.mono ?_; rintro e w2 ⟨rfl, b2⟩)
   go_ret
   exact ⟨rfl, hb0.trans (b2.mono hb0.size)⟩
 · rw [hok] at he
   clear hok
   have hin : ∀ W, Calls Tryz.prog 59 #[.int .i64 i, .int .i64 0, .int .i64 ((ps.length : Int) - 1)] W fun e w' => e = .returned (.bool (wiB i ps.length)) ∧ W = w' := by
    intro W
    have := l1In i 0 ((ps.length : Int) - 1) W
    rw [jp0, Int.sub_add_cancel] at this
    exact this
   go_enter Tryz.func33, Tryz.ntmps33
   go_wp2_with fail
   go_at_call 32
   refine he.mono ?_
   rintro e w2 ⟨rfl, b2⟩
   obtain ⟨c2, f2⟩ := ja4 ((b2.block w.heap.size (by omega)).trans H0)
   obtain ⟨ao, cap, rfl, hc⟩ := hv
   clear he
   go_wp2_with (go_at_call 59; refine (hin _).mono ?_; rintro e w3 ⟨rfl, rfl⟩)
   go_ret
   exact ⟨rfl, hb0.trans (b2.mono hb0.size)⟩
theorem hasProc (ps : List (List Stm)) (i : Int) (v : Value) (w : World) (hl : ps.length ≤ maxLen) (hp : ∀ p ∈ ps, p.length ≤ maxLen) (hv : jb5 w v ps) :
 Calls Tryz.prog 42 #[.agg #[v], .int .i64 i] w fun e w' => e = .returned (.bool (hasB ps i)) ∧ Below w.heap.size w w' := by
 have hb0 : Below w.heap.size w (w.alloc (.cells #[v] 26)) := by go_grown
 have he := jj6 ps v _ hl hp (ja0 hv hb0)
 have H0 := heap_alloc_new w (.cells #[v] 26)
 have s0 : (w.alloc (.cells #[v] 26)).heap.size = w.heap.size + 1 := by simp
 unfold maxLen at hl
 unfold hasB
 cases hok : ja5 ps
 · rw [hok] at he
   clear hv
   go_enter Tryz.func42, Tryz.ntmps42
   go_wp2_with (go_at_call 17; refine he.mono ?_; rintro e w2 ⟨rfl, b2⟩)
   go_ret
   exact ⟨rfl, hb0.trans (b2.mono hb0.size)⟩
 · rw [hok] at he
   clear hok
   have hin := within i ps.length
   go_enter Tryz.func42, Tryz.ntmps42
   go_wp2_with fail
   go_at_call 17
   refine he.mono ?_
   rintro e w2 ⟨rfl, b2⟩
   obtain ⟨c2, f2⟩ := ja4 ((b2.block w.heap.size (by omega)).trans H0)
   obtain ⟨ao, cap, rfl, hc⟩ := hv
   clear he
   go_wp2_with (go_at_call 71; refine (hin _).mono ?_; rintro e w3 ⟨rfl, rfl⟩)
   go_ret
   exact ⟨rfl, hb0.trans (b2.mono hb0.size)⟩
def jy9 (acc : List Int) (s : Stm) : List Int := if s.k = 8 then ins s.y acc else acc
def ju7 (p : List Stm) : List Int := p.foldl jy9 []
end Go.Proofs.YtldagpfeaabcdaaGreatDoor
namespace Go.Proofs.YtldagpfeaabcdaaGreatDoor
open Go.RowKit
set_option linter.unusedVariables false
set_option maxHeartbeats 1000000
def hasI (xs : List Int) (n : Int) : Bool := xs.any (fun x => decide (x = n))
theorem sliceIndex (xs : List Int) (n : Int) (v : Value) (w : World) (hl : xs.length ≤ maxLen) (hv : jf8 w v (ints xs)) :
 Calls Tryz.prog 77 #[v, .int .i64 n] w fun e w' => ∃ r : Int, e = .returned (.int .i64 r) ∧ decide (0 ≤ r) = hasI xs n ∧ -1 ≤ r ∧ r ≤ 9223372036854775807 ∧ w = w' := by
 unfold maxLen at hl
 obtain ⟨ao, cap, rfl, hc⟩ := hv
 rw [jb8]
 obtain ⟨B, hB⟩ : ∃ B, hasI xs n = B := ⟨_, rfl⟩
 rw [hB]
 have HB : Hid (hasI xs n = B) := hB
 clear hB
 go_enter Tryz.func77, Tryz.ntmps77
 go_wp2
 go_loopw [8] (fun i wr => ∃ k : Nat, k ≤ xs.length ∧ i = .int .i64 k ∧ w = wr ∧ hasI (xs.take k) n = false) (fun i _ => xs.length - (intOf i).toNat)
 case atStart => exact ⟨0, Nat.zero_le _, rfl, rfl, by simp [hasI]⟩
 case round =>
  obtain ⟨k, hk, rfl, rfl, hno⟩ := hrel
  have HNO : Hid _ := hno
  clear hno
  by_cases hlt : k < xs.length
  · have hlt' : (k : Int) < (xs.length : Int) := by omega
    obtain ⟨g, off, rfl, hg⟩ := hc k (.int .i64 xs[k]) (by simp [ints, hlt])
    have h1 : hasI (xs.take (k + 1)) n = decide (xs[k] = n) := by
     unfold hasI
     rw [List.take_succ_eq_append_getElem hlt, List.any_append]
     have := HNO.out
     unfold hasI at this
     rw [this]; simp
    have h2 : xs[k] = n → hasI xs n = true := fun h => List.any_eq_true.2 ⟨xs[k], List.getElem_mem hlt, by simp [h]⟩
    have H1 : Hid _ := h1
    have H2 : Hid _ := h2
    clear h1 h2 hc
    generalize xs[k] = x at *
    by_cases hx : x = n
    · have H4 : Hid (B = true) := HB.out.symm.trans (H2.out hx)
      have hx' : (n == x) = true := by simpa using hx.symm
      clear H1 H2 hx
      go_wp2
      go_ret
      exact ⟨k, rfl, by rw [H4.out]; simp, by omega, by omega, rfl⟩
    · have hx' : (n == x) = false := by simpa using fun h => hx h.symm
      have H3 : Hid (hasI (xs.take (k + 1)) n = false) := H1.out.trans (by simp [hx])
      clear H1 H2
      go_wp2
      go_roundw
      case rel => exact ⟨k + 1, by omega, by go_num, by trivial, H3.out⟩
      case measure => simp [intOf]; omega
  · have hkk : k = xs.length := by omega
    subst hkk
    go_wp2
    go_ret
    have h := HNO.out
    rw [List.take_length, HB.out] at h
    exact ⟨-1, rfl, by rw [h]; rfl, by omega, by omega, rfl⟩
theorem sliceContains (xs : List Int) (n : Int) (v : Value) (w : World) (hl : xs.length ≤ maxLen) (hv : jf8 w v (ints xs)) :
 Calls Tryz.prog 75 #[v, .int .i64 n] w fun e w' => e = .returned (.bool (hasI xs n)) ∧ w = w' := by
 have hi := sliceIndex xs n v w hl hv
 go_enter Tryz.func75, Tryz.ntmps75
 go_wp2_with fail
 go_at_call 77
 refine hi.mono ?_
 rintro e w1 ⟨r, rfl, hr, _, _, rfl⟩
 have HR : Hid _ := hr
 clear hi hr
 go_wp2
 go_ret
 exact ⟨by rw [← HR.out]; simp, rfl⟩
end Go.Proofs.YtldagpfeaabcdaaGreatDoor
namespace Go.Proofs.YtldagpfeaabcdaaGreatDoor
open Go.RowKit
set_option linter.unusedVariables false
set_option linter.unusedSimpArgs false
theorem hasI_iff {xs : List Int} {n : Int} : hasI xs n = true ↔ n ∈ xs := by
 unfold hasI
 rw [List.any_eq_true]
 constructor
 · rintro ⟨x, hx, h⟩
   have h : x = n := by simpa using h
   subst h; exact hx
 · exact fun h => ⟨n, h, by simp⟩
theorem hasI_not {xs : List Int} {n : Int} : hasI xs n = false ↔ n ∉ xs := by
 rw [← hasI_iff]; simp
def jh1 (out : List Int) (s : Stm) : List Int := if s.k = 8 ∧ hasI out s.y = false then out ++ [s.y] else out
def ji8 (out : List Int) (p : List Stm) : List Int := p.foldl jh1 out
def go14 (ps : List (List Stm)) : Nat → Nat → List Int → List Int
 | 0, _, out => out
 | f + 1, i, out => if i < out.length then go14 ps f (i + 1) (ji8 out (ps.getD (out.getD i 0).toNat [])) else out
def jg4 (ps : List (List Stm)) (i : Int) : List Int := go14 ps 5 0 [i]
structure O14 (ps : List (List Stm)) (out : List Int) : Prop where
 inn : ∀ x ∈ out, 0 ≤ x ∧ x < (ps.length : Int)
 nd : out.Nodup
theorem O14.len {ps : List (List Stm)} {out : List Int} (h : O14 ps out) : out.length ≤ ps.length := by
 have := List.Nodup.length_le_of_subset (α := Int) (l₁ := out) (l₂ := (List.range ps.length).map Int.ofNat) h.nd (fun x hx => by
  obtain ⟨h0, h1⟩ := h.inn x hx
  exact List.mem_map.2 ⟨x.toNat, List.mem_range.2 (by omega), by simp; omega⟩)
 simpa using this
theorem come14_kept {out : List Int} {s : Stm} : ∀ x ∈ out, x ∈ jh1 out s := by
 intro x hx
 unfold jh1
 split
 · exact List.mem_append_left _ hx
 · exact hx
theorem come14_get {out : List Int} {s : Stm} {j : Nat} {x : Int} (h : out[j]? = some x) : (jh1 out s)[j]? = some x := by
 unfold jh1
 split
 · have hj := (List.getElem?_eq_some_iff.1 h).1
   rw [List.getElem?_append_left hj]; exact h
 · exact h
theorem come14_call {out : List Int} {s : Stm} (h : s.k = 8) : s.y ∈ jh1 out s := by
 unfold jh1
 by_cases h2 : hasI out s.y = false
 · rw [if_pos ⟨h, h2⟩]; simp
 · rw [if_neg (fun hh => h2 hh.2)]
   exact hasI_iff.1 (by simpa using h2)
theorem O14.come {ps : List (List Stm)} {out : List Int} {s : Stm} (h : O14 ps out) (hs : s.k = 8 → 0 ≤ s.y ∧ s.y < (ps.length : Int)) : O14 ps (jh1 out s) := by
 unfold jh1
 split
 · rename_i hc
   refine ⟨fun x hx => ?_, ?_⟩
   · rcases List.mem_append.1 hx with h1 | h1
     · exact h.inn x h1
     · rw [List.mem_singleton.1 h1]; exact hs hc.1
   · refine List.nodup_append.2 ⟨h.nd, by simp, fun a ha b hb => ?_⟩
     rw [List.mem_singleton.1 hb]
     exact fun e => hasI_not.1 hc.2 (e ▸ ha)
 · exact h
theorem jt8 : ∀ (p : List Stm) {out : List Int}, ∀ x ∈ out, x ∈ ji8 out p
 | [], out, x, hx => hx
 | s :: p, out, x, hx => jt8 p x (come14_kept x hx)
theorem jn2 : ∀ (p : List Stm) {out : List Int} {j : Nat} {x : Int}, out[j]? = some x → (ji8 out p)[j]? = some x
 | [], out, j, x, h => h
 | s :: p, out, j, x, h => jn2 p (come14_get h)
theorem qb2 : ∀ (p : List Stm) {out : List Int}, ∀ s ∈ p, s.k = 8 → s.y ∈ ji8 out p
 | t :: p, out, s, hs, hk => by
  rcases List.mem_cons.1 hs with rfl | h
  · exact jt8 p _ (come14_call hk)
  · exact qb2 p s h hk
theorem O14.scan {ps : List (List Stm)} : ∀ (p : List Stm) {out : List Int}, O14 ps out → (∀ s ∈ p, s.k = 8 → 0 ≤ s.y ∧ s.y < (ps.length : Int)) → O14 ps (ji8 out p)
 | [], out, h, _ => h
 | s :: p, out, h, hs => O14.scan p (h.come (hs s (by simp))) (fun t ht => hs t (by simp [ht]))
theorem qd2 (out : List Int) (p : List Stm) (k : Nat) (h : k < p.length) : ji8 out (p.take (k + 1)) = jh1 (ji8 out (p.take k)) p[k] := by
 unfold ji8
 rw [List.take_succ_eq_append_getElem h, List.foldl_append]
 rfl
def Calls14 (ps : List (List Stm)) : Prop := ∀ p ∈ ps, ∀ s ∈ p, s.k = 8 → 0 ≤ s.y ∧ s.y < (ps.length : Int)
theorem js3 {ps : List (List Stm)} (h : ja5 ps = true) : Calls14 ps := by
 obtain ⟨_, _, hp⟩ := jc1 h
 intro p hpm s hs hk
 obtain ⟨h1, h2⟩ := hp p hpm
 have h3 := List.all_eq_true.1 h2 s hs
 unfold ji5 at h3
 have h4 := ji1 h1 hs
 rw [hk] at h4
 refine ⟨(jm1 h4).1, ?_⟩
 simp [hk] at h3; omega
theorem jv5 {ps : List (List Stm)} {x : Int} (h0 : 0 ≤ x) (h1 : x < (ps.length : Int)) : ∃ h : x.toNat < ps.length, ps.getD x.toNat [] = ps[x.toNat] :=
 ⟨by omega, by simp [List.getD_eq_getElem?_getD, List.getElem?_eq_getElem (show x.toNat < ps.length by omega)]⟩
theorem Calls14.at {ps : List (List Stm)} (h : Calls14 ps) {x : Int} (h0 : 0 ≤ x) (h1 : x < (ps.length : Int)) : ∀ s ∈ ps.getD x.toNat [], s.k = 8 → 0 ≤ s.y ∧ s.y < (ps.length : Int) := by
 obtain ⟨hl, he⟩ := jv5 h0 h1
 rw [he]
 exact h _ (List.getElem_mem hl)
def Cl14 (ps : List (List Stm)) (out : List Int) (i : Nat) : Prop := ∀ (j : Nat) (x : Int), j < i → out[j]? = some x → ∀ s ∈ ps.getD x.toNat [], s.k = 8 → s.y ∈ out
theorem Cl14.scan {ps : List (List Stm)} {out : List Int} {i : Nat} (h : Cl14 ps out i) (hi : i < out.length) : Cl14 ps (ji8 out (ps.getD (out.getD i 0).toNat [])) (i + 1) := by
 intro j x hj hx s hs hk
 have hjl : j < out.length := by omega
 have h1 := jn2 (ps.getD (out.getD i 0).toNat []) (List.getElem?_eq_getElem hjl)
 rw [hx] at h1
 have h1 := Option.some.inj h1
 subst h1
 by_cases hji : j < i
 · exact jt8 _ _ (h j _ hji (List.getElem?_eq_getElem hjl) s hs hk)
 · have hji : j = i := by omega
   subst hji
   have e : out.getD j 0 = out[j] := by simp [List.getD_eq_getElem?_getD, List.getElem?_eq_getElem hjl]
   rw [e]
   exact qb2 _ s hs hk
theorem go14_done {ps : List (List Stm)} (hc : Calls14 ps) (h4 : ps.length ≤ 4) : ∀ (f i : Nat) (out : List Int), f + i = 5 → i ≤ out.length → O14 ps out → Cl14 ps out i →
 O14 ps (go14 ps f i out) ∧ Cl14 ps (go14 ps f i out) (go14 ps f i out).length ∧ (∀ (j : Nat) (x : Int), out[j]? = some x → (go14 ps f i out)[j]? = some x)
 | 0, i, out, hf, hi, ho, _ => by
  have := ho.len
  omega
 | f + 1, i, out, hf, hi, ho, hcl => by
  unfold go14
  split
  · rename_i hlt
    have hm := ho.inn (out.getD i 0) (by simp [List.getD_eq_getElem?_getD, List.getElem?_eq_getElem hlt])
    have hl : i + 1 ≤ (ji8 out (ps.getD (out.getD i 0).toNat [])).length := by
     have := jn2 (ps.getD (out.getD i 0).toNat []) (List.getElem?_eq_getElem hlt)
     exact (List.getElem?_eq_some_iff.1 this).1
    obtain ⟨h1, h2, h3⟩ := go14_done hc h4 f (i + 1) (ji8 out (ps.getD (out.getD i 0).toNat [])) (by omega) hl (ho.scan _ (hc.at hm.1 hm.2)) (hcl.scan hlt)
    exact ⟨h1, h2, fun j x hx => h3 j x (jn2 _ hx)⟩
  · have : i = out.length := by omega
    subst this
    exact ⟨ho, hcl, fun j x hx => hx⟩
theorem qe0 {ps : List (List Stm)} {i : Int} (h : wiB i ps.length = true) : O14 ps [i] := by
 unfold wiB at h
 simp at h
 exact ⟨fun x hx => by rw [List.mem_singleton.1 hx]; exact h, by simp⟩
structure Ord14 (ps : List (List Stm)) (R : List Int) : Prop where
 o : O14 ps R
 cl : ∀ x ∈ R, ∀ s ∈ ps.getD x.toNat [], s.k = 8 → s.y ∈ R
theorem jn0 {ps : List (List Stm)} {i : Int} (h : hasB ps i = true) : Ord14 ps (jg4 ps i) ∧ (jg4 ps i)[0]? = some i := by
 unfold hasB at h
 simp only [Bool.and_eq_true] at h
 obtain ⟨h4, _, _⟩ := jc1 h.1
 obtain ⟨h1, h2, h3⟩ := go14_done (js3 h.1) h4 5 0 [i] rfl (Nat.zero_le _) (qe0 h.2) (fun j x hj => by omega)
 refine ⟨⟨h1, fun x hx s hs hk => ?_⟩, h3 0 i rfl⟩
 obtain ⟨j, hj⟩ := List.getElem?_of_mem hx
 exact h2 j x (List.getElem?_eq_some_iff.1 hj).1 hj s hs hk
def jh8 (R : List Int) (y : Int) : Nat := R.findIdx (fun x => decide (x = y))
def je5 (R : List Int) (s : Stm) : Stm := if s.k = 8 then ⟨s.k, s.x, (jh8 R s.y : Int)⟩ else s
def jf7 (ps : List (List Stm)) (R : List Int) : List (List Stm) := R.map (fun t => (ps.getD t.toNat []).map (je5 R))
def cloA (ps : List (List Stm)) (i : Int) : List (List Stm) := if hasB ps i then jf7 ps (jg4 ps i) else []
theorem jj9 {R : List Int} {y : Int} (h : y ∈ R) : jh8 R y < R.length := List.findIdx_lt_length_of_exists ⟨y, h, by simp⟩
theorem jm4 {R : List Int} {y : Int} (h : y ∈ R) : R[jh8 R y]? = some y := by
 have hl := jj9 h
 have := List.findIdx_getElem (p := fun x => decide (x = y)) (xs := R) (w := hl)
 rw [List.getElem?_eq_getElem hl]
 have h2 : R[List.findIdx (fun x => decide (x = y)) R]'hl = y := by simpa using this
 exact congrArg some h2
theorem pos14_before {R : List Int} {y : Int} {j : Nat} (h : j < jh8 R y) : R[j]? ≠ some y := by
 have hl : j < R.length := Nat.lt_of_lt_of_le h List.findIdx_le_length
 have := List.not_of_lt_findIdx h
 rw [List.getElem?_eq_getElem hl]
 simpa using this
theorem jp2 {R : List Int} {y : Int} {j : Nat} (hn : R.Nodup) (h : R[j]? = some y) : jh8 R y = j := by
 have hm : y ∈ R := List.mem_of_getElem? h
 have h2 := jm4 hm
 obtain ⟨a, ha⟩ := List.getElem?_eq_some_iff.1 h2
 obtain ⟨b, hb⟩ := List.getElem?_eq_some_iff.1 h
 rcases Nat.lt_trichotomy (jh8 R y) j with h5 | h5 | h5
 · exact absurd (ha.trans hb.symm) (List.pairwise_iff_getElem.1 hn _ _ a b h5)
 · exact h5
 · exact absurd (hb.trans ha.symm) (List.pairwise_iff_getElem.1 hn _ _ b a h5)
def jg8 (f : Stm → Stm) (p : List Stm) (j : Nat) : List Stm := (p.take j).map f ++ p.drop j
theorem qc8 (f : Stm → Stm) (p : List Stm) : jg8 f p 0 = p := by simp [jg8]
theorem qf4 (f : Stm → Stm) (p : List Stm) : jg8 f p p.length = p.map f := by simp [jg8]
theorem part14_length (f : Stm → Stm) (p : List Stm) (j : Nat) (h : j ≤ p.length) : (jg8 f p j).length = p.length := by simp [jg8]; omega
theorem jy1 (f : Stm → Stm) (p : List Stm) (j : Nat) (h : j < p.length) : (jg8 f p j)[j]? = some p[j] := by
 unfold jg8
 rw [List.getElem?_append_right (by simp; omega)]
 simp
 have : j - min j p.length = 0 := by omega
 rw [this]
 simp [h]
theorem ju3 (f : Stm → Stm) (p : List Stm) (j : Nat) (h : j < p.length) : jg8 f p (j + 1) = (jg8 f p j).set j (f p[j]) := by
 unfold jg8
 have hj : (List.map f (p.take j)).length = j := by simp; omega
 rw [List.set_append_right _ _ (by omega), hj, Nat.sub_self, List.drop_eq_getElem_cons h, List.set_cons_zero, List.take_succ_eq_append_getElem h, List.map_append, List.append_assoc]
 rfl
theorem qe2 (f : Stm → Stm) (p : List Stm) (j : Nat) (h : j < p.length) (hj : f p[j] = p[j]) : jg8 f p (j + 1) = jg8 f p j := by
 rw [ju3 f p j h, hj]
 refine List.ext_getElem? (fun i => ?_)
 by_cases e : j = i
 · subst e
   rw [List.getElem?_set_self (by rw [part14_length _ _ _ (by omega)]; exact h), jy1 f p j h]
 · rw [List.getElem?_set_ne e]
end Go.Proofs.YtldagpfeaabcdaaGreatDoor
