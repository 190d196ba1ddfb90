/-
 Put together out of: PlaceS, PlOwn, Alike14.
-/
import Derived.Deep.RegionHeld3
import Derived.Test.YtldagpfeaabcdaaGreatDoorG35CallsBoth
namespace Go.Proofs.YtldagpfeaabcdaaGreatDoor
open Go.RowKit
set_option linter.unusedVariables false
set_option linter.unusedSimpArgs false
set_option maxHeartbeats 4000000
set_option maxRecDepth 20000
def jn8 (w : World) (v : Value) (n : Nat) (xs : List Value) : Prop :=
 ∃ ao cap, v = .slice ao n cap ∧ ∀ j x, xs[j]? = some x → ∃ g off, ao = some ⟨g, off, none⟩ ∧ w.cell? ⟨g, off + j, none⟩ = some x
theorem jx8 {w : World} {base : Nat} {e : TypeId} {v : Value} {n : Nat} {xs : List Value} (h : w.ownsRow base e 2 v n xs) : jn8 w v n xs := by
 have hl := h.1
 rcases h.2 with ⟨rfl, hn⟩ | ⟨g, cap, cur, rfl, hr⟩
 · subst hn
   exact ⟨none, 0, rfl, fun j x hx => by rw [List.eq_nil_of_length_eq_zero (by omega : xs.length = 0)] at hx; simp at hx⟩
 · refine ⟨some ⟨g, 0, none⟩, cap, rfl, fun j x hx => ⟨g, 0, rfl, ?_⟩⟩
   have hj : j < xs.length := (List.getElem?_eq_some_iff.1 hx).1
   have := h.cellAt j (by omega)
   rw [Nat.zero_add, this, hx]
end Go.Proofs.YtldagpfeaabcdaaGreatDoor
namespace Go.Proofs.YtldagpfeaabcdaaGreatDoor
open Go.RowKit
set_option linter.unusedVariables false
set_option maxHeartbeats 1000000
structure OwnPl (w : World) (base : Nat) (v : Value) (X : List Int) : Prop where
 ex : ∃ n, X.length = 2 * n ∧ w.ownsRow base 42 2 v n (ints X)
theorem OwnPl.below {w w' : World} {base : Nat} {v : Value} {X : List Int} (h : OwnPl w base v X) (hb : Below w.heap.size w w') : OwnPl w' base v X := by
 obtain ⟨n, h1, h2⟩ := h.ex
 exact ⟨n, h1, jc0 h2 hb⟩
theorem OwnPl.mono {w : World} {base base' : Nat} {v : Value} {X : List Int} (h : OwnPl w base v X) (hb : base' ≤ base) : OwnPl w base' v X := by
 obtain ⟨n, h1, h2⟩ := h.ex
 exact ⟨n, h1, jc4 h2 hb⟩
theorem infoPlace : (Tryz.prog.info? 42).map (fun i => (i.zero, i.size, i.bytes)) = some (some (.agg #[.int .i64 0, .int .i64 0]), 2, 16) := by kernel_rfl
theorem made0P (w : World) : OwnPl (w.alloc (.cells #[] 42)) w.heap.size (.slice (some ⟨w.heap.size, 0, none⟩) 0 0) [] :=
 ⟨0, rfl, World.ownsRow_made w #[] 0 (Nat.le_refl _) (by unfold maxLen; omega) rfl⟩
theorem nilP (w : World) (base : Nat) : OwnPl w base (.slice none 0 0) [] := ⟨0, rfl, World.ownsRow_nil _ _ _ _⟩
theorem OwnPl.app {w' : World} {base n : Nat} {v' : Value} {X : List Int} {i k : Nat} (hX : X.length = 2 * n) (h : w'.ownsRow base 42 2 v' (n + 1) (ints X ++ [.int .i64 (i : Int), .int .i64 (k : Int)])) : OwnPl w' base v' (X ++ [(i : Int), (k : Int)]) :=
 ⟨n + 1, by simp [hX]; omega, by rw [ints_append]; exact h⟩
theorem two_one (x y : Int) : ∀ u ∈ [Value.int .i64 x, Value.int .i64 y], u.oneCell' = true := by simp [Value.oneCell']
end Go.Proofs.YtldagpfeaabcdaaGreatDoor
namespace Go.Proofs.YtldagpfeaabcdaaGreatDoor
open Go.RowKit
set_option linter.unusedVariables false
set_option linter.unusedSimpArgs false
set_option maxHeartbeats 4000000
set_option maxRecDepth 20000
def rowA (P : Nat → Nat → Bool) (i : Nat) : Nat → List Int
 | 0 => []
 | k + 1 => rowA P i k ++ (if P i k then [(i : Int), (k : Int)] else [])
def allA (P : Nat → Nat → Bool) (m : Nat) : Nat → List Int
 | 0 => []
 | i + 1 => allA P m i ++ rowA P i m
theorem rowA_len (P : Nat → Nat → Bool) (i : Nat) : ∀ k, ∃ n, (rowA P i k).length = 2 * n ∧ n ≤ k
 | 0 => ⟨0, rfl, Nat.le_refl _⟩
 | k + 1 => by
  obtain ⟨n, h, hn⟩ := rowA_len P i k
  unfold rowA
  by_cases hp : P i k = true
  · exact ⟨n + 1, by rw [if_pos hp]; simp [h]; omega, by omega⟩
  · exact ⟨n, by rw [if_neg hp]; simp [h], by omega⟩
theorem allA_len (P : Nat → Nat → Bool) (m : Nat) : ∀ i, ∃ n, (allA P m i).length = 2 * n ∧ n ≤ m * i
 | 0 => ⟨0, rfl, Nat.le_refl _⟩
 | i + 1 => by
  obtain ⟨n, h, hn⟩ := allA_len P m i
  obtain ⟨k, h', hk⟩ := rowA_len P i m
  exact ⟨n + k, by unfold allA; simp only [List.length_append, h, h']; omega, by rw [Nat.mul_succ]; omega⟩
def jo8 (P : Nat → Nat → Bool) (m i k : Nat) : List Int := allA P m i ++ rowA P i k
theorem qh1 (P : Nat → Nat → Bool) (m i : Nat) : jo8 P m i 0 = allA P m i := by simp [jo8, rowA]
theorem partA_all (P : Nat → Nat → Bool) (m i : Nat) : jo8 P m i m = allA P m (i + 1) := rfl
theorem partA_yes {P : Nat → Nat → Bool} {m i k : Nat} (h : P i k = true) : jo8 P m i (k + 1) = jo8 P m i k ++ [(i : Int), (k : Int)] := by simp [jo8, rowA, h]
theorem partA_no {P : Nat → Nat → Bool} {m i k : Nat} (h : P i k = false) : jo8 P m i (k + 1) = jo8 P m i k := by simp [jo8, rowA, h]
theorem partA_len (P : Nat → Nat → Bool) (m i k : Nat) (hm : m ≤ 4) (hi : i < 4) (hk : k ≤ m) : ∃ n, (jo8 P m i k).length = 2 * n ∧ n ≤ 16 := by
 obtain ⟨n, h, hn⟩ := allA_len P m i
 obtain ⟨q, h', hq⟩ := rowA_len P i k
 have : m * i ≤ 4 * 3 := Nat.mul_le_mul hm (by omega)
 exact ⟨n + q, by unfold jo8; simp only [List.length_append, h, h']; omega, by omega⟩
def ji7 (ps1 ps2 : List (List Stm)) (i k : Nat) : Bool := decide (conA ps1 i = conA ps2 k)
def jl0 (ps1 ps2 : List (List Stm)) : List Int := if ja5 ps1 && ja5 ps2 then allA (ji7 ps1 ps2) ps2.length ps1.length else []
theorem alikeA_len (ps1 ps2 : List (List Stm)) : ∃ n, (jl0 ps1 ps2).length = 2 * n ∧ n ≤ 16 := by
 unfold jl0
 split
 · rename_i h
   simp only [Bool.and_eq_true] at h
   obtain ⟨h1, _, _⟩ := jc1 h.1
   obtain ⟨h2, _, _⟩ := jc1 h.2
   obtain ⟨n, h3, h4⟩ := allA_len (ji7 ps1 ps2) ps2.length ps1.length
   have : ps2.length * ps1.length ≤ 4 * 4 := Nat.mul_le_mul h2 h1
   exact ⟨n, h3, by omega⟩
 · exact ⟨0, rfl, by omega⟩
def jg7 (ps : List (List Stm)) (n : Nat) : List Value := (List.range n).map (fun i : Nat => Value.string ⟨(conA ps (i : Int)).toArray⟩)
theorem jq9 (ps : List (List Stm)) (n : Nat) : (jg7 ps n).length = n := by simp [jg7]
theorem jz7 (ps : List (List Stm)) (n j : Nat) (h : j < n) : (jg7 ps n)[j]? = some (.string ⟨(conA ps (j : Int)).toArray⟩) := by simp [jg7, h]
theorem conCells_succ (ps : List (List Stm)) (n : Nat) : jg7 ps (n + 1) = jg7 ps n ++ [.string ⟨(conA ps (n : Int)).toArray⟩] := by simp [jg7, List.range_succ]
theorem infoStr : (Tryz.prog.info? 9).map (fun i => (i.zero, i.size, i.bytes)) = some (some (.string ⟨#[]⟩), 1, 16) := by kernel_rfl
theorem text_ne (D E : List UInt8) (h : ¬ D = E) (W : World) : (binOp .eql 9 (.string ⟨D.toArray⟩) (.string ⟨E.toArray⟩)).run Tryz.prog W = .ok (.bool false) W := by
 simp [go_sem]
 exact h
theorem plV_of (i k : Int) (w : World) : Calls Tryz.prog 54 #[.int .i64 i, .int .i64 k] w fun e w' => e = .returned (.agg #[.int .i64 i, .int .i64 k]) ∧ Below w.heap.size w w' := by
 have hB := heap_alloc_new w (.cells #[.int .i64 i, .int .i64 k] 42)
 have d1 : (w.alloc (.cells #[.int .i64 i, .int .i64 k] 42)).cell? ⟨w.heap.size, 0, none⟩ = some (.int .i64 i) := by simp only [World.cell?, hB]; rfl
 have d2 : (w.alloc (.cells #[.int .i64 i, .int .i64 k] 42)).cell? ⟨w.heap.size, 1, none⟩ = some (.int .i64 k) := by simp only [World.cell?, hB]; rfl
 clear hB
 go_enter Tryz.func54, Tryz.ntmps54
 go_wp2
 refine bodyPost_ret (v := .agg #[.int .i64 i, .int .i64 k]) (by simp [results, Tryz.results54, go_sem, d1, d2]) rfl ?_
 exact ⟨rfl, by go_grown⟩
theorem js5 (ps : List (List Stm)) (v : Value) (w : World) (hl : ps.length ≤ maxLen) (hp : ∀ p ∈ ps, p.length ≤ maxLen) (hok : ja5 ps = true) (hv : jb5 w v ps) :
 Calls Tryz.prog 28 #[.agg #[v]] w fun e w' => ∃ g, e = .returned (.slice (some ⟨g, 0, none⟩) ps.length ps.length) ∧ w'.ownsRow w.heap.size 9 1 (.slice (some ⟨g, 0, none⟩) ps.length ps.length) ps.length (jg7 ps ps.length) ∧ Below w.heap.size w w' := by
 obtain ⟨i0, hi, hz0, hz1, hz2⟩ := info_parts infoStr
 obtain ⟨ao, vcap, rfl, hcv⟩ := id hv
 obtain ⟨W0, hW0⟩ : ∃ W0, w.alloc (.cells #[.slice ao ps.length vcap] 26) = W0 := ⟨_, rfl⟩
 have b0 : Below w.heap.size w W0 := by rw [← hW0]; go_grown
 have s0 : W0.heap.size = w.heap.size + 1 := by rw [← hW0]; simp
 have H0 : W0.heap[w.heap.size]? = some (.cells #[.slice ao ps.length vcap] 26 (0, 0)) := by rw [← hW0]; exact heap_alloc_new w _
 have hpk := jj6 ps _ W0 hl hp (ja0 hv b0)
 rw [hok] at hpk
 have c0 := (ja4 H0).1
 obtain ⟨h4, h1, _⟩ := jc1 hok
 have hclo : ∀ (j : Nat), j < ps.length → ∀ W, jb5 W (.slice ao ps.length vcap) ps → Calls Tryz.prog 31 #[.agg #[.slice ao ps.length vcap], .int .i64 (j : Int)] W fun e w' => ∃ u us, e = .returned (.agg #[u]) ∧ Own13 w' W.heap.size u us (cloA ps (j : Int)) ∧ Below W.heap.size W w' := by
  intro j hj W hW
  have hb : hasB ps (j : Int) = true := by
   unfold hasB wiB
   rw [hok]
   simp
   omega
  have := closureOf ps (j : Int) _ W hl hp hb hW
  rw [← jo4 hb] at this
  exact this
 have HCLO : Hid _ := hclo
 have HHV : Hid (jb5 w (.slice ao ps.length vcap) ps) := hv
 clear hok hclo hcv
 go_enter Tryz.func28, Tryz.ntmps28
 go_wp2_with fail
 go_at_call 17
 refine hpk.mono ?_
 rintro e w1 ⟨rfl, b1⟩
 have s1 := b1.size
 have H1 := (b1.block w.heap.size (by omega)).trans H0
 have L1 : Below w.heap.size w w1 := jc8 b0 b1 (by omega)
 have c1 := (ja4 H1).1
 clear hW0 hpk c0 H0 b0 b1 hv
 go_wp2_with fail
 go_at_call 55
 refine (need_yes w1).mono ?_
 rintro e w1' ⟨rfl, rfl⟩
 obtain ⟨n, hn⟩ : ∃ n, ps.length = n := ⟨_, rfl⟩
 have HN : Hid _ := hn
 rw [hn] at c1 h4 h1 H1 HHV HCLO ⊢
 clear hn
 go_wp2_with (refine wpList_make_full _ rfl (.tmp 10) (.tmp 10) 59 rfl w1.heap.size 9 i0 (.string ⟨#[]⟩) 1 Tryz.underlying59 hi hz0 hz1 .i64 .i64 _ _ n rfl rfl rfl rfl (by rw [hz2]; omega) (by unfold maxLen; omega) (Nat.le_refl _) ?_; intro w3 own3 grow3; have c3 := (ja4 ((grow3.block w.heap.size (by omega) (by simp)).trans H1)).1)
 have zl : (madeCells (Value.string ⟨#[]⟩).cells (n * 1)).toList.length = n := by simpa using own3.1
 generalize (madeCells (Value.string ⟨#[]⟩).cells (n * 1)).toList = zs at own3 zl
 have b3 : Below w1.heap.size w1 w3 := (Below.refl _ _).grown grow3 (Nat.le_refl _) (by simp)
 have s3 : w1.heap.size + 1 ≤ w3.heap.size := by have := (own3.lt w1.heap.size rfl).2; omega
 have L3 : Below w.heap.size w w3 := jc8 L1 b3 (by omega)
 have H3 := (b3.block w.heap.size (by omega)).trans H1
 clear c1 H1 L1 b3 grow3 c3
 obtain ⟨G, hG⟩ : ∃ G, w1.heap.size = G := ⟨_, rfl⟩
 rw [hG] at own3 s3 s1 ⊢
 have hwG : w.heap.size + 1 ≤ G := by omega
 clear hG s0 s1
 go_loopw [15] (fun q wr => ∃ k : Nat, k ≤ n ∧ q = .int .i64 k ∧ wr.ownsRow G 9 1 (.slice (some ⟨G, 0, none⟩) n n) n (jg7 ps k ++ zs.drop k) ∧ Below w.heap.size w wr ∧ G + 1 ≤ wr.heap.size ∧ wr.heap[w.heap.size]? = some (.cells #[.slice ao n vcap] 26 (0, 0))) (fun q _ => n - (intOf q).toNat)
 case atStart => exact ⟨0, Nat.zero_le _, rfl, by simpa [jg7] using own3, L3, s3, H3⟩
 case round =>
  obtain ⟨k, hk, rfl, hown, hb, hsz, hH⟩ := hrel
  clear own3 L3 H3 s3
  by_cases hlt : k < n
  · have hlt' : (k : Int) < (n : Int) := by omega
    have hcl := HCLO.out k hlt wr (ja0 HHV.out hb)
    obtain ⟨hm1, hm2⟩ := ju2 ps (k : Int)
    have hsh := fun u W => implShow (cloA ps (k : Int)) u W hm1 hm2
    have hcs := conCells_succ ps k
    have hcn : jv4 (cloA ps (k : Int)) = conA ps (k : Int) := rfl
    have hcl5 := jq9 ps k
    rw [hcn] at hsh
    clear hcn
    have HCS : Hid _ := hcs
    clear hcs
    generalize conA ps (k : Int) = D at *
    obtain ⟨c5, _⟩ := ja4 hH
    go_wp2_with fail
    go_at_call 31
    refine hcl.mono ?_
    rintro e w5 ⟨u, us, rfl, o5, b5⟩
    have hsh5 := hsh u w5 (jj1 o5.ownP)
    obtain ⟨ua, um, uc, rfl⟩ := jd4 o5.row
    have s5 := b5.size
    have own5 := jc0 hown b5
    have L5 : Below w.heap.size w w5 := jc8 hb b5 hb.size
    have H5 := (b5.block w.heap.size (by omega)).trans hH
    clear hcl hsh c5 o5 b5 hown hb hH
    go_wp2_with fail
    go_at_call 35
    refine hsh5.mono ?_
    rintro e w6 ⟨rfl, b6⟩
    have s6 := b6.size
    have own6 := jc0 own5 b6
    have L6 : Below w.heap.size w w6 := jc8 L5 b6 L5.size
    have H6 := (b6.block w.heap.size (by omega)).trans H5
    have f0 := own6.frozenAt k
    obtain ⟨y0, d0⟩ := jo6 own6 k (by omega)
    have hst := (own6.stored k (.string ⟨D.toArray⟩)).1
    rw [set_snoc (jg7 ps k) zs (.string ⟨D.toArray⟩) k hcl5 (by omega), ← HCS.out] at hst
    have HS : Hid ((w6.setCell ⟨G, k, none⟩ (.string ⟨D.toArray⟩)).ownsRow G 9 1 (.slice (some ⟨G, 0, none⟩) n n) n (jg7 ps (k + 1) ++ zs.drop (k + 1))) := hst
    have HH : Hid ((w6.setCell ⟨G, k, none⟩ (.string ⟨D.toArray⟩)).heap[w.heap.size]? = some (.cells #[.slice ao n vcap] 26 (0, 0))) := (Below.heap_setCell _ _ _ _ (by simp; omega)).trans H6
    clear hst hsh5 own5 own6 L5 H5 b6 H6 hcl5
    go_wp2
    go_roundw
    case rel => exact ⟨k + 1, by omega, by go_num, HS.out, L6.setCell (by simp; omega) _, by simp [World.setCell]; omega, HH.out⟩
    case measure => simp [intOf]; omega
  · have hkk : k = n := by omega
    rw [List.drop_of_length_le (by omega), List.append_nil] at hown
    subst hkk
    have HO : Hid (wr.ownsRow w.heap.size 9 1 (.slice (some ⟨G, 0, none⟩) k k) k (jg7 ps k)) := jc4 hown (by omega)
    clear hown
    go_wp2
    go_ret
    refine ⟨G, ?_, ?_, hb⟩
    · rw [HN.out]
      rfl
    · rw [HN.out]
      exact HO.out
theorem jm9 (ps : List (List Stm)) (v : Value) (w : World) (hl : ps.length ≤ maxLen) (hp : ∀ p ∈ ps, p.length ≤ maxLen) (hok : ja5 ps = false) (hv : jb5 w v ps) :
 Calls Tryz.prog 28 #[.agg #[v]] w fun e w' => e = .panicked [{ v := jm0, recovered := false }] ∧ Below w.heap.size w w' := by
 obtain ⟨W0, hW0⟩ : ∃ W0, w.alloc (.cells #[v] 26) = W0 := ⟨_, rfl⟩
 have b0 : Below w.heap.size w W0 := by rw [← hW0]; go_grown
 have s0 : W0.heap.size = w.heap.size + 1 := by rw [← hW0]; simp
 have H0 : W0.heap[w.heap.size]? = some (.cells #[v] 26 (0, 0)) := by rw [← hW0]; exact heap_alloc_new w _
 have hpk := jj6 ps _ W0 hl hp (ja0 hv b0)
 rw [hok] at hpk
 have c0 := (ja4 H0).1
 clear hok hv
 go_enter Tryz.func28, Tryz.ntmps28
 go_wp2_with fail
 go_at_call 17
 refine hpk.mono ?_
 rintro e w1 ⟨rfl, b1⟩
 have L1 : Below w.heap.size w w1 := jc8 b0 b1 (by omega)
 clear hW0 hpk c0 H0 b0 b1
 go_wp2_with fail
 go_at_call 55
 refine (need_no w1).mono ?_
 rintro e w1' ⟨rfl, rfl⟩
 go_wp2
 exact ⟨rfl, rfl, L1⟩
theorem equalPairs (ps1 ps2 : List (List Stm)) (n m : Nat) (u v : Value) (w : World) (hn : n ≤ 4) (hm : m ≤ 4) (hu : jf8 w u (jg7 ps1 n)) (hv : jf8 w v (jg7 ps2 m)) :
 Calls Tryz.prog 27 #[u, v] w fun e w' => ∃ x, e = .returned x ∧ OwnPl w' w.heap.size x (allA (ji7 ps1 ps2) m n) ∧ Below w.heap.size w w' := by
 obtain ⟨ip, hip, hq0, hq1, hq2⟩ := info_parts infoPlace
 obtain ⟨uo, ucap, rfl, hcu⟩ := hu
 obtain ⟨vo, vcap, rfl, hcv⟩ := hv
 rw [jq9] at *
 rw [jq9]
 obtain ⟨R, hR⟩ : ∃ R, allA (ji7 ps1 ps2) m n = R := ⟨_, rfl⟩
 rw [hR]
 have HR : Hid _ := hR
 have HCU : Hid _ := hcu
 have HCV : Hid _ := hcv
 clear hR hcu hcv
 go_enter Tryz.func27, Tryz.ntmps27
 go_wp2
 go_loopw [5, 12] (fun o q wr => ∃ i : Nat, i ≤ n ∧ q = .int .i64 i ∧ OwnPl wr w.heap.size o (allA (ji7 ps1 ps2) m i) ∧ Below w.heap.size w wr) (fun _ q _ => n - (intOf q).toNat)
 case atStart => exact ⟨0, Nat.zero_le _, rfl, nilP _ _, Below.refl _ _⟩
 case round =>
  obtain ⟨i, hi, rfl, hO, hb⟩ := hrel
  by_cases hlt : i < n
  · have hlt' : (i : Int) < (n : Int) := by omega
    obtain ⟨gu, ou, rfl, a0⟩ := HCU.out i _ (jz7 ps1 n i hlt)
    have a1 := (hb.cell (World.block_lt_of_cell? w _ a0)).trans a0
    have hO' : OwnPl wr w.heap.size u5 (jo8 (ji7 ps1 ps2) m i 0) := by rw [qh1]; exact hO
    have hI : ∀ k, ji7 ps1 ps2 i k = decide (conA ps1 i = conA ps2 k) := fun _ => rfl
    generalize conA ps1 (i : Int) = D at *
    clear hO
    go_wp2
    clear a1
    go_loopw [5, 19] (fun o q wr => ∃ k : Nat, k ≤ m ∧ q = .int .i64 k ∧ OwnPl wr w.heap.size o (jo8 (ji7 ps1 ps2) m i k) ∧ Below w.heap.size w wr) (fun _ q _ => m - (intOf q).toNat)
    case atStart => exact ⟨0, Nat.zero_le _, rfl, hO', hb⟩
    case round =>
     obtain ⟨k, hk, rfl, hOk, hbk⟩ := hrel
     clear hO' hb
     by_cases hlk : k < m
     · have hlk' : (k : Int) < (m : Int) := by omega
       obtain ⟨gv, ov, rfl, d0⟩ := HCV.out k _ (jz7 ps2 m k hlk)
       have d1 := (hbk.cell (World.block_lt_of_cell? w _ d0)).trans d0
       have hIk := hI k
       have hpy := @partA_yes (ji7 ps1 ps2) m i k
       have hpn := @partA_no (ji7 ps1 ps2) m i k
       obtain ⟨q, hq, hq16⟩ := partA_len (ji7 ps1 ps2) m i k hm (by omega) (by omega)
       obtain ⟨q', hq', own⟩ := hOk.ex
       obtain rfl : q = q' := by omega
       generalize conA ps2 (k : Int) = E at *
       have HPY : Hid _ := hpy
       have HPN : Hid _ := hpn
       clear hI hpy hpn
       by_cases hDE : D = E
       · have hs : ji7 ps1 ps2 i k = true := by rw [hIk]; simp [hDE]
         have HP : Hid _ := HPY.out hs
         have hpl := plV_of (i : Int) (k : Int) wr
         clear hIk hs HPY HPN
         subst hDE
         obtain ⟨xa, xm, xc, rfl⟩ := jd4 own
         go_wp2_with fail
         go_at_call 54
         refine hpl.mono ?_
         rintro e w5 ⟨rfl, b5⟩
         have s5 := b5.size
         have own5 := jc0 own b5
         have L5 : Below w.heap.size w w5 := jc8 hbk b5 hbk.size
         have sk := hbk.size
         have HAL : Hid ((w5.alloc (.cells #[.int .i64 (i : Int), .int .i64 (k : Int)] 42)).ownsRow w.heap.size 42 2 (.slice xa xm xc) q (ints (jo8 (ji7 ps1 ps2) m i k))) := own5.alloc _
         have HNW : Hid (∀ j u, [Value.int .i64 (i : Int), .int .i64 (k : Int)][j]? = some u → (w5.alloc (.cells #[.int .i64 (i : Int), .int .i64 (k : Int)] 42)).cell? ((⟨w5.heap.size, 0, none⟩ : Addr).add j) = some u) := World.news_of_block (heap_alloc_new w5 (.cells #[.int .i64 (i : Int), .int .i64 (k : Int)] 42))
         have L6 : Below w.heap.size w (w5.alloc (.cells #[.int .i64 (i : Int), .int .i64 (k : Int)] 42)) := L5.alloc L5.size _
         clear hpl d1 own b5 hOk own5
         go_wp2_with (first
          | (at_builtin; refine wpList_append_own _ rfl (.tmp 27) (.tmp 31) 29 rfl w.heap.size 42 ip (.agg #[.int .i64 0, .int .i64 0]) 2 16 Tryz.underlying29 hip hq0 hq1 hq2 rfl (by decide) _ q _ rfl HAL.out ⟨w5.heap.size, 0, none⟩ 1 1 [.int .i64 (i : Int), .int .i64 (k : Int)] rfl rfl HNW.out (two_one i k) (by unfold maxLen; omega) (by omega) (by simp; omega) ?_; intro v7 w7 own7 grow7 _; refine qc1 ?_)
          | go_in)
         have L7 : Below w.heap.size w w7 := L6.grown grow7 (by simp; omega) (fun z hz => (World.ownsRow.lt HAL.out z hz).1)
         have O7 : Hid (OwnPl w7 w.heap.size v7 (jo8 (ji7 ps1 ps2) m i (k + 1))) := by
          show OwnPl _ _ _ _
          rw [HP.out]
          exact OwnPl.app hq own7
         obtain ⟨va, vm, vc, rfl⟩ := jd4 own7
         clear own7 grow7 L6 L5 HAL HNW
         unfold Stop14
         go_wp2
         go_roundw
         case rel => exact ⟨k + 1, by omega, by go_num, O7.out, L7⟩
         case measure => simp [intOf]; omega
       · have hs : ji7 ps1 ps2 i k = false := by rw [hIk]; simp [hDE]
         have HP : Hid _ := HPN.out hs
         have heq := fun W => text_ne D E hDE W
         have hdec : decide (D = E) = false := by simpa using hDE
         have hbq : (D == E) = false := by simpa using hDE
         have hba : (D.toArray == E.toArray) = false := by simpa using hDE
         clear hIk hs HPY HPN
         have HOK : Hid (OwnPl wr w.heap.size u5 (jo8 (ji7 ps1 ps2) m i (k + 1))) := by
          show OwnPl _ _ _ _
          rw [HP.out]
          exact hOk
         clear hOk own
         go_wp2
         go_roundw
         case rel => exact ⟨k + 1, by omega, by go_num, HOK.out, hbk⟩
         case measure => simp [intOf]; omega
     · have hkk : k = m := by omega
       have HOK : Hid (OwnPl wr w.heap.size u5 (allA (ji7 ps1 ps2) m (i + 1))) := by
        show OwnPl _ _ _ _
        rw [← partA_all, ← hkk]
        rw [hkk] at hOk
        rw [hkk]
        exact hOk
       clear hOk hkk hI
       go_wp2
       go_roundw
       case rel => exact ⟨i + 1, by omega, by go_num, HOK.out, hbk⟩
       case measure => simp [intOf]; omega
  · have hii : i = n := by omega
    rw [hii, HR.out] at hO
    have HO : Hid _ := hO
    obtain ⟨q, _, own⟩ := hO.ex
    obtain ⟨xa, xm, xc, hx⟩ := jd4 own
    subst hx
    clear hO own hii
    go_wp2
    go_ret
    exact ⟨_, rfl, HO.out, hb⟩
end Go.Proofs.YtldagpfeaabcdaaGreatDoor
