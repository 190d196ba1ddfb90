/-
 Put together out of: Content14, TabEx, Numbers, Called, CallsBoth.
-/
import Derived.Test.YtldagpfeaabcdaaGreatDoorCloS14
import Derived.Test.YtldagpfeaabcdaaGreatDoorShowI
import Derived.Test.YtldagpfeaabcdaaGreatDoorShowS
namespace Go.Proofs.YtldagpfeaabcdaaGreatDoor
open Go.RowKit
set_option linter.unusedVariables false
set_option linter.unusedSimpArgs false
set_option maxHeartbeats 4000000
set_option maxRecDepth 20000
theorem ju2 (ps : List (List Stm)) (i : Int) : (cloA ps i).length ≤ maxLen ∧ ∀ p ∈ cloA ps i, p.length ≤ maxLen := by
 unfold cloA
 cases hok : hasB ps i
 · simp
 · have hO := (jn0 hok).1
   have hok1 : ja5 ps = true := by unfold hasB at hok; simp only [Bool.and_eq_true] at hok; exact hok.1
   obtain ⟨h4, _, hpr⟩ := jc1 hok1
   simp only [if_true]
   refine ⟨by rw [jr9]; have := hO.o.len; unfold maxLen; omega, fun p hp => ?_⟩
   unfold jf7 at hp
   obtain ⟨t, ht, rfl⟩ := List.mem_map.1 hp
   obtain ⟨h0, h1⟩ := hO.o.inn t ht
   obtain ⟨h2, h3⟩ := jv5 h0 h1
   rw [h3, List.length_map]
   have := jj5 (hpr _ (List.getElem_mem h2)).1
   unfold maxLen
   omega
def conA (ps : List (List Stm)) (i : Int) : List UInt8 := jv4 (cloA ps i)
theorem conA_no {ps : List (List Stm)} {i : Int} (h : hasB ps i = false) : conA ps i = [] := by
 unfold conA cloA
 rw [h]
 rfl
theorem jo4 {ps : List (List Stm)} {i : Int} (h : hasB ps i = true) : cloA ps i = jf7 ps (jg4 ps i) := by
 unfold cloA
 rw [h]
 rfl
theorem qc4 (ps : List (List Stm)) (i : Int) (v : Value) (w : World) (hl : ps.length ≤ maxLen) (hp : ∀ p ∈ ps, p.length ≤ maxLen) (hv : jb5 w v ps) :
 Calls Tryz.prog 13 #[.agg #[v], .int .i64 i] w fun e w' => e = .returned (.string ⟨(conA ps i).toArray⟩) ∧ Below w.heap.size w w' := by
 obtain ⟨W0, hW0⟩ : ∃ W0, w.alloc (.cells #[v] 26) = W0 := ⟨_, rfl⟩
 have b0 : Below w.heap.size w W0 := by rw [← hW0]; go_grown
 have s0 : W0.heap.size = w.heap.size + 1 := by rw [← hW0]; simp
 have H0 : W0.heap[w.heap.size]? = some (.cells #[v] 26 (0, 0)) := by rw [← hW0]; exact heap_alloc_new w _
 obtain ⟨hm1, hm2⟩ := ju2 ps i
 have hcl := ju6 ps i v W0 hl hp (ja0 hv b0)
 have hsh := fun u W => implShow (cloA ps i) u W hm1 hm2
 obtain ⟨D, hD⟩ : ∃ D, jv4 (cloA ps i) = D := ⟨_, rfl⟩
 have hD2 : conA ps i = D := hD
 rw [hD] at hsh
 rw [hD2]
 have c0 := (ja4 H0).1
 obtain ⟨ao, vcap, rfl, _⟩ := hv
 clear hD hD2
 go_enter Tryz.func13, Tryz.ntmps13
 go_wp2_with fail
 go_at_call 8
 refine hcl.mono ?_
 rintro e w1 ⟨u, us, rfl, o1, b1⟩
 have L1 : Below w.heap.size w w1 := jc8 b0 b1 (by omega)
 have hsh1 := hsh u w1 (jj1 o1.ownP)
 obtain ⟨ua, um, uc, rfl⟩ := jd4 o1.row
 clear hcl c0 H0 b0 hW0 hsh o1 b1
 go_wp2_with fail
 go_at_call 35
 refine hsh1.mono ?_
 rintro e w2 ⟨rfl, b2⟩
 have L2 : Hid (Below w.heap.size w w2) := jc8 L1 b2 L1.size
 clear hsh1 L1 b2
 go_wp2
 go_ret
 exact ⟨rfl, L2.out⟩
theorem jv0 (ps : List (List Stm)) (i : Int) (v : Value) (w : World) (hl : ps.length ≤ maxLen) (hp : ∀ p ∈ ps, p.length ≤ maxLen) (hv : jb5 w v ps) :
 Calls Tryz.prog 14 #[.agg #[v], .int .i64 i] w fun e w' => e = .returned (.string ⟨(conA ps i).toArray⟩) ∧ Below w.heap.size w w' := by
 obtain ⟨W0, hW0⟩ : ∃ W0, w.alloc (.cells #[v] 26) = W0 := ⟨_, rfl⟩
 have b0 : Below w.heap.size w W0 := by rw [← hW0]; go_grown
 have s0 : W0.heap.size = w.heap.size + 1 := by rw [← hW0]; simp
 have H0 : W0.heap[w.heap.size]? = some (.cells #[v] 26 (0, 0)) := by rw [← hW0]; exact heap_alloc_new w _
 have hin := l3In ps i v W0 hl hp (ja0 hv b0)
 have c0 := (ja4 H0).1
 cases hok : hasB ps i
 · rw [conA_no hok]
   rw [hok] at hin
   clear hok
   obtain ⟨ao, vcap, rfl, _⟩ := hv
   go_enter Tryz.func14, Tryz.ntmps14
   go_wp2_with fail
   go_at_call 33
   refine hin.mono ?_
   rintro e w1 ⟨rfl, b1⟩
   have L1 : Hid (Below w.heap.size w w1) := jc8 b0 b1 (by omega)
   clear hin c0 H0 b0 b1 hW0
   go_wp2
   go_ret
   exact ⟨rfl, L1.out⟩
 · rw [hok] at hin
   obtain ⟨hm1, hm2⟩ := ju2 ps i
   have hcl := fun W hW => l14Closure ps i v W hok hW
   have hsh := fun u W => specShow (cloA ps i) u W hm1 hm2
   obtain ⟨D, hD⟩ : ∃ D, jv4 (cloA ps i) = D := ⟨_, rfl⟩
   have hD2 : conA ps i = D := hD
   rw [hD] at hsh
   rw [hD2]
   rw [← jo4 hok] at hcl
   have HHV : Hid _ := hv
   obtain ⟨ao, vcap, rfl, _⟩ := hv
   clear hD hD2 hok
   go_enter Tryz.func14, Tryz.ntmps14
   go_wp2_with fail
   go_at_call 33
   refine hin.mono ?_
   rintro e w1 ⟨rfl, b1⟩
   have s1 := b1.size
   have H1 := (b1.block w.heap.size (by omega)).trans H0
   have L1 : Below w.heap.size w w1 := jc8 b0 b1 (by omega)
   have hcl1 := hcl w1 (ja0 HHV.out L1)
   have c1 := (ja4 H1).1
   clear hin c0 H0 b0 b1 hcl hW0
   go_wp2_with fail
   go_at_call 34
   refine hcl1.mono ?_
   rintro e w2 ⟨u, us, rfl, o2, b2⟩
   have L2 : Below w.heap.size w w2 := jc8 L1 b2 (by omega)
   have hsh2 := hsh u w2 (jj1 o2.ownP)
   obtain ⟨ua, um, uc, rfl⟩ := jd4 o2.row
   clear hcl1 c1 H1 L1 hsh o2 b2
   go_wp2_with fail
   go_at_call 36
   refine hsh2.mono ?_
   rintro e w3 ⟨rfl, b3⟩
   have L3 : Hid (Below w.heap.size w w3) := jc8 L2 b3 L2.size
   clear hsh2 L2 b3
   go_wp2
   go_ret
   exact ⟨rfl, L3.out⟩
end Go.Proofs.YtldagpfeaabcdaaGreatDoor
namespace Go.Proofs.YtldagpfeaabcdaaGreatDoor
open Go.RowKit
set_option linter.unusedVariables false
set_option maxHeartbeats 1000000
theorem inner_some {E : Nat → List Int} {ss : List Stm} (hp : je7 ss = true) (hE : ∀ i, i < ss.length → Smalls (E i)) : ∃ R, R.length = ss.length ∧ IsInner E ss R := by
 obtain ⟨hpos, _, _⟩ := jh0 hp
 have main : ∀ n R, InnS E ss R → jq2 R = n → ∃ R, R.length = ss.length ∧ IsInner E ss R := by
  intro n
  induction n using Nat.strongRecOn with
  | ind n ih =>
   intro R h hn
   by_cases hc : Clo E ss R
   · exact ⟨R, h.len, h.good, hc, h.und⟩
   · have : ∃ (i : Nat) (hi : i < ss.length) (x : Int), x ∈ jj0 ss[i] i ∧ ¬ SubR (comp (R.getD i []) (E i)) (R.getD x.toNat []) := by
      refine Classical.byContradiction fun hno => hc ⟨h.unit, fun i hi x hx => Classical.byContradiction fun hs => hno ⟨i, hi, x, hx, hs⟩⟩
     obtain ⟨i, hi, x, hx, hs⟩ := this
     have hxl := next_lt hp hi hx
     have hr := jh7 (h.good i hi) (hE i hi)
     have P := (Pss.begin h).put hxl hr (fun C hC hc => h.goes hi (hE i hi) x hx C hC hc) (fun e => hs (sub_of_joi (h.good _ hxl) hr e))
     rcases P.st with ⟨e, _⟩ | ⟨_, e⟩
     · cases e
     · exact ih _ (by omega) _ P.inn rfl
 exact main _ _ (InnS.begin hpos) rfl
theorem jt1 (n : Nat) (f : Nat → List Int) {i : Nat} (hi : i < n) : ((List.range n).map f).getD i [] = f i := by
 simp [List.getD, hi]
theorem qf5 {c : Int} (hc : c = 1 ∨ c = 2) {ps : List (List Stm)} (hp : CanP ps) {T : List (List Int)} (hT : GoodN ps.length T) : ∃ T', T'.length = ps.length ∧ IsRound c ps T T' := by
 have h : ∀ i (hi : i < ps.length), ∃ R, IsInner (effN c T ps[i]) ps[i] R := fun i hi => by
  obtain ⟨R, _, h⟩ := inner_some (hp i hi).1 (fun j hj => jv2 hc hp hT hi hj)
  exact ⟨R, h⟩
 refine ⟨(List.range ps.length).map (fun i => if hi : i < ps.length then backs ps[i] (Classical.choose (h i hi)) else []), by simp, fun i hi => ?_⟩
 refine ⟨Classical.choose (h i hi), Classical.choose_spec (h i hi), ?_⟩
 rw [jt1 _ _ hi, dif_pos hi]
theorem qb7 {c : Int} (hc : c = 1 ∨ c = 2) {ps : List (List Stm)} (hp : CanP ps) : ∃ T, T.length = ps.length ∧ IsTables c ps T := by
 have main : ∀ n T, T.length = ps.length → Ris c ps T → jq2 T = n → ∃ T, T.length = ps.length ∧ IsTables c ps T := by
  intro n
  induction n using Nat.strongRecOn with
  | ind n ih =>
   intro T hl h hn
   obtain ⟨T', hl', hr⟩ := qf5 hc hp h.good
   by_cases e : T' = T
   · subst e; exact ⟨T', hl, h.last hr⟩
   · have := jv7 (T := T) (U := T') (by omega) (by rw [hl]; exact h.good) (by rw [hl]; exact hr.good) (by rw [hl]; exact h.up T' hr) (fun e' => e e'.symm)
     exact ih _ (by omega) T' hl' (h.next hc hp hr) rfl
 exact main _ (List.replicate ps.length zero7) (by simp) (Ris.zero (fun i hi => by simp [List.getD, hi])) rfl
def okB (ps : List (List Stm)) (c : Int) : Bool := ja5 ps && decide (c = 1 ∨ c = 2)
theorem okB_parts {ps : List (List Stm)} {c : Int} (h : okB ps c = true) : ja5 ps = true ∧ (c = 1 ∨ c = 2) ∧ CanP ps ∧ ps.length ≤ 4 := by
 unfold okB at h
 simp only [Bool.and_eq_true, decide_eq_true_eq] at h
 have h1 := h.1
 unfold ja5 at h1
 simp only [Bool.and_eq_true, decide_eq_true_eq] at h1
 exact ⟨h.1, h.2, canP_of h.1, by omega⟩
def TabA (ps : List (List Stm)) (c : Int) (T : List (List Int)) : Prop := (okB ps c = true → T.length = ps.length ∧ IsTables c ps T) ∧ (okB ps c = false → T = [])
theorem tabA_some (ps : List (List Stm)) (c : Int) : ∃ T, TabA ps c T := by
 cases h : okB ps c with
 | false => exact ⟨[], by simp [h], fun _ => rfl⟩
 | true =>
  obtain ⟨_, hc, hp, _⟩ := okB_parts h
  obtain ⟨T, h1, h2⟩ := qb7 hc hp
  exact ⟨T, fun _ => ⟨h1, h2⟩, by simp [h]⟩
end Go.Proofs.YtldagpfeaabcdaaGreatDoor
namespace Go.Proofs.YtldagpfeaabcdaaGreatDoor
open Go.RowKit
set_option linter.unusedVariables false
set_option maxHeartbeats 1000000
def nums : List Bool → Int → List Int
 | [], _ => []
 | b :: bs, i => if b then i :: nums bs (i + 1) else nums bs (i + 1)
theorem nums_snoc : ∀ (bs : List Bool) (b : Bool) (i : Int), nums (bs ++ [b]) i = nums bs i ++ (if b then [i + bs.length] else [])
 | [], b, i => by cases b <;> simp [nums]
 | c :: bs, b, i => by
  have e : i + 1 + (bs.length : Int) = i + ((bs.length : Int) + 1) := by omega
  cases c <;> simp [nums, nums_snoc bs b (i + 1), e]
theorem jv3 : ∀ (bs : List Bool) (i : Int), (nums bs i).length ≤ bs.length
 | [], _ => by simp [nums]
 | b :: bs, i => by
  have := jv3 bs (i + 1)
  cases b <;> simp [nums] <;> omega
theorem numbersIn (bs : List Bool) (v : Value) (w : World) (hl : bs.length ≤ 1000000) (hv : jf8 w v (bs.map .bool)) :
 Calls Tryz.prog 45 #[v] w fun e w' => ∃ u, e = .returned u ∧ w'.ownsRow w.heap.size 2 1 u (nums bs 0).length (ints (nums bs 0)) ∧ Below w.heap.size w w' := by
 obtain ⟨i0, hi, hz0, hz1, hz2⟩ := info_parts jy6
 obtain ⟨ao, cap, rfl, hc⟩ := hv
 simp only [List.length_map]
 obtain ⟨R, hR⟩ : ∃ R, nums bs 0 = R := ⟨_, rfl⟩
 rw [hR]
 have HR : Hid _ := hR
 clear hR
 go_enter Tryz.func45, Tryz.ntmps45
 go_wp2
 go_loopw [3, 8] (fun o i wr => ∃ (k : Nat), k ≤ bs.length ∧ i = .int .i64 k ∧
  wr.ownsRow w.heap.size 2 1 o (nums (bs.take k) 0).length (ints (nums (bs.take k) 0)) ∧ Below w.heap.size w wr) (fun _ i _ => bs.length - (intOf i).toNat)
 case atStart => exact ⟨0, Nat.zero_le _, rfl, ⟨by simp [nums, ints], .inl ⟨rfl, by simp [nums]⟩⟩, Below.refl _ _⟩
 case round =>
  obtain ⟨k, hk, rfl, hown, hb⟩ := hrel
  by_cases hlt : k < bs.length
  · have hlt' : (k : Int) < (bs.length : Int) := by omega
    obtain ⟨g, off, rfl, a0⟩ := hc k (.bool bs[k]) (by simp [hlt])
    have a0 := (hb.cell (World.block_lt_of_cell? w _ a0)).trans a0
    have hsn : nums (bs.take (k + 1)) 0 = nums (bs.take k) 0 ++ (if bs[k] then [(k : Int)] else []) := by
     rw [List.take_succ_eq_append_getElem hlt, nums_snoc, Int.zero_add, List.length_take, Nat.min_eq_left (by omega)]
    have HS : Hid _ := hsn
    have hlen := jv3 (bs.take k) 0
    have hlen2 : (bs.take k).length ≤ k := List.length_take_le _ _
    clear hc hsn
    generalize bs[k] = b at *
    generalize nums (bs.take k) 0 = xs at *
    cases b
    · have HP : Hid (nums (bs.take (k + 1)) 0 = xs) := HS.out.trans (by simp)
      go_wp2
      go_roundw
      case rel => exact ⟨k + 1, by omega, by go_num, by rw [HP.out]; exact hown, hb⟩
      case measure => simp [intOf]; omega
    · have HP : Hid (nums (bs.take (k + 1)) 0 = xs ++ [(k : Int)]) := HS.out
      have B1 : Hid (Below w.heap.size w (wr.alloc (.cells #[.int .i64 (k : Int)] 2))) := hb.alloc hb.size _
      have sz := hb.size
      have HSZ : Hid (w.heap.size ≤ (wr.alloc (.cells #[.int .i64 (k : Int)] 2)).heap.size) := by
       show w.heap.size ≤ (wr.alloc (.cells #[.int .i64 (k : Int)] 2)).heap.size
       simp; omega
      clear HS
      go_wp2_with (first
       | (at_builtin; refine wpList_append_own _ rfl (.tmp 14) (.tmp 16) 38 rfl w.heap.size 2 i0 (.int .i64 0) 1 8 Tryz.underlying38 hi hz0 hz1 hz2 rfl (by decide) _ _ _ rfl (hown.alloc _) ⟨wr.heap.size, 0, none⟩ 1 _ [.int .i64 (k : Int)] rfl rfl (cell_one wr k) (jm5 [(k : Int)]) (by unfold maxLen; omega) (by omega) HSZ.out ?_; intro v2 w2 own2 grow2 _; have L2 := jw3 B1.out grow2 (fun q hq => (hown.lt q hq).1))
       | go_in)
      have own3 : Hid (w2.ownsRow w.heap.size 2 1 v2 (xs ++ [(k : Int)]).length (ints (xs ++ [(k : Int)]))) := by
       show w2.ownsRow w.heap.size 2 1 v2 (xs ++ [(k : Int)]).length (ints (xs ++ [(k : Int)]))
       simpa [ints] using own2
      go_roundw
      case rel => exact ⟨k + 1, by omega, by go_num, by rw [HP.out]; exact own3.out, L2⟩
      case measure => simp [intOf]; omega
  · have hkk : k = bs.length := by omega
    subst hkk
    rw [List.take_length, HR.out] at hown
    go_wp2
    go_ret
    exact ⟨_, rfl, hown, hb⟩
end Go.Proofs.YtldagpfeaabcdaaGreatDoor
namespace Go.Proofs.YtldagpfeaabcdaaGreatDoor
open Go.RowKit
set_option linter.unusedVariables false
set_option maxHeartbeats 1000000
def jd2 (p : List Stm) (i : Int) : Bool := p.any (fun s => decide (s.k = 8) && decide (s.y = i))
theorem called_snoc (p : List Stm) (k : Nat) (h : k < p.length) (i : Int) : jd2 (p.take (k + 1)) i = (jd2 (p.take k) i || (decide (p[k].k = 8) && decide (p[k].y = i))) := by
 rw [jd2, List.take_succ_eq_append_getElem h, List.any_append]
 simp [jd2]
theorem jk3 {w : World} {b : Nat} {x0 x1 x2 x3 : Value} {T : TypeId} (h : w.heap[b]? = some (.cells #[x0, x1, x2, x3] T (0, 0))) :
 w.cell? ⟨b, 0, none⟩ = some x0 ∧ w.cell? ⟨b, 1, none⟩ = some x1 ∧ w.cell? ⟨b, 2, none⟩ = some x2 ∧ w.cell? ⟨b, 3, none⟩ = some x3 ∧
  w.frozen? ⟨b, 0, none⟩ = false ∧ w.frozen? ⟨b, 1, none⟩ = false ∧ w.frozen? ⟨b, 2, none⟩ = false ∧ w.frozen? ⟨b, 3, none⟩ = false := by
 refine ⟨?_, ?_, ?_, ?_, ?_, ?_, ?_, ?_⟩ <;> simp [World.cell?, World.frozen?, h]
theorem qh2 (p : List Stm) (hp : ∀ s ∈ p, jd7 s.k s.x s.y = true) : ju7 p = nums [jd2 p 0, jd2 p 1, jd2 p 2, jd2 p 3] 0 := by
 have hput : ∀ (y : Int) (b0 b1 b2 b3 : Bool), 0 ≤ y → y ≤ 3 → ins y (nums [b0, b1, b2, b3] 0) = nums [b0 || decide (y = 0), b1 || decide (y = 1), b2 || decide (y = 2), b3 || decide (y = 3)] 0 := by
  intro y b0 b1 b2 b3 h0 h3
  have : y = 0 ∨ y = 1 ∨ y = 2 ∨ y = 3 := by omega
  rcases this with rfl | rfl | rfl | rfl <;> cases b0 <;> cases b1 <;> cases b2 <;> cases b3 <;> rfl
 have key : ∀ (p : List Stm), (∀ s ∈ p, jd7 s.k s.x s.y = true) → ∀ (b0 b1 b2 b3 : Bool),
  p.foldl jy9 (nums [b0, b1, b2, b3] 0) = nums [b0 || jd2 p 0, b1 || jd2 p 1, b2 || jd2 p 2, b3 || jd2 p 3] 0 := by
  intro p
  induction p with
  | nil => intro _ b0 b1 b2 b3; simp [jd2]
  | cons s p ih =>
   intro hs b0 b1 b2 b3
   have h1 := hs s (by simp)
   have ih := ih (fun t ht => hs t (by simp [ht]))
   obtain ⟨k, x, y⟩ := s
   simp only at h1
   by_cases h8 : k = 8
   · subst h8
     obtain ⟨y0, y3⟩ := jm1 h1
     rw [List.foldl_cons, jy9, if_pos rfl, hput y b0 b1 b2 b3 y0 y3, ih]
     simp [jd2, Bool.or_assoc]
   · rw [List.foldl_cons, jy9, if_neg h8, ih]
     simp [jd2, h8]
 have := key p hp false false false false
 simpa [ju7, nums] using this
end Go.Proofs.YtldagpfeaabcdaaGreatDoor
namespace Go.Proofs.YtldagpfeaabcdaaGreatDoor
open Go.RowKit
set_option linter.unusedVariables false
set_option maxHeartbeats 1000000
theorem four_setC {w : World} {b : Nat} {p0 p1 p2 p3 : Value} {t : TypeId} (h : w.heap[b]? = some (.cells #[p0, p1, p2, p3] t (0, 0))) (x0 x1 x2 x3 : Value) :
 ((((w.setCell ⟨b, 0, none⟩ x0).setCell ⟨b, 1, none⟩ x1).setCell ⟨b, 2, none⟩ x2).setCell ⟨b, 3, none⟩ x3).heap[b]? = some (.cells #[x0, x1, x2, x3] t (0, 0)) := by
 have h1 := heap_setCell_same w b 0 _ t x0 h
 have h2 := heap_setCell_same _ b 1 _ t x1 h1
 have h3 := heap_setCell_same _ b 2 _ t x2 h2
 have h4 := heap_setCell_same _ b 3 _ t x3 h3
 simpa using h4
abbrev b4 (p : List Stm) : Array Value := #[.bool (jd2 p 0), .bool (jd2 p 1), .bool (jd2 p 2), .bool (jd2 p 3)]
theorem calledBy (p : List Stm) (v : Value) (w : World) (hl : p.length ≤ 12) (hok : ∀ s ∈ p, jd7 s.k s.x s.y = true) (hv : jk5 w v p) :
 Calls Tryz.prog 72 #[.agg #[v]] w fun e w' => e = .returned (.agg #[.bool (jd2 p 0), .bool (jd2 p 1), .bool (jd2 p 2), .bool (jd2 p 3)]) ∧ Below w.heap.size w w' := by
 obtain ⟨ao, cap, rfl, hc⟩ := hv
 have hq : (p.length : Int) ≤ 12 := by omega
 go_enter Tryz.func72, Tryz.ntmps72
 go_wp2
 have hl3 := laid3 (w := w) (a := .cells #[.slice ao p.length cap] 63) (b := .cells #[.bool false, .bool false, .bool false, .bool false] 75) (c := .cells #[.bool false, .bool false, .bool false, .bool false] 75) (Below.refl _ _)
 obtain ⟨_, K1, K2, K3, K4⟩ := hl3
 generalize ((w.alloc (.cells #[.slice ao p.length cap] 63)).alloc (.cells #[.bool false, .bool false, .bool false, .bool false] 75)).alloc (.cells #[.bool false, .bool false, .bool false, .bool false] 75) = W at *
 go_loopw [9] (fun i wr => ∃ (k : Nat), k ≤ p.length ∧ i = .int .i64 k ∧ wr.heap[w.heap.size + 1 + 1]? = some (.cells #[.bool (jd2 (p.take k) 0), .bool (jd2 (p.take k) 1), .bool (jd2 (p.take k) 2), .bool (jd2 (p.take k) 3)] 75 (0, 0)) ∧
  wr.heap[w.heap.size + 1]? = some (.cells #[.bool false, .bool false, .bool false, .bool false] 75 (0, 0)) ∧ w.heap.size + 3 ≤ wr.heap.size ∧ Below w.heap.size w wr) (fun i _ => p.length - (intOf i).toNat)
 case atStart => exact ⟨0, Nat.zero_le _, rfl, by simpa [jd2] using K2, K1, K3, K4⟩
 case round =>
  obtain ⟨k, hk, rfl, H2, H1, hsz, hb⟩ := hrel
  by_cases hlt : k < p.length
  · have hlt' : (k : Int) < (p.length : Int) := by omega
    obtain ⟨g, off, rfl, a0, a1, a2⟩ := hc k p[k] (by simp [hlt])
    have aB := World.block_lt_of_cell? w _ a0
    have a0 := (hb.cell aB).trans a0
    have a1 := (hb.cell (p := ⟨g, off + k * 3 + 1, none⟩) aB).trans a1
    have a2 := (hb.cell (p := ⟨g, off + k * 3 + 2, none⟩) aB).trans a2
    have hsk := hok p[k] (List.getElem_mem hlt)
    have hcs := called_snoc p k hlt
    clear hc hok K1 K2 K3 K4
    generalize p[k] = s at *
    obtain ⟨sk, sx, sy⟩ := s
    simp only at a0 a1 a2 hsk hcs
    obtain ⟨c0, c1, c2, c3, f0, f1, f2, f3⟩ := jk3 H2
    have HH1 : Hid (wr.heap[w.heap.size + 1]? = some (.cells #[.bool false, .bool false, .bool false, .bool false] 75 (0, 0))) := H1
    have HH2 : Hid _ := H2
    have HC : Hid _ := hcs
    clear H1 H2 hcs
    have hz2 : w.heap.size + 1 + 1 < wr.heap.size := by omega
    by_cases h8 : sk = 8
    · subst h8
      have hy := jm1 hsk
      have hy' : sy = 0 ∨ sy = 1 ∨ sy = 2 ∨ sy = 3 := by omega
      clear hy hsk
      rcases hy' with rfl | rfl | rfl | rfl
      · have G2 : Hid _ := heap_setCell_same wr (w.heap.size + 1 + 1) 0 _ 75 (.bool true) HH2.out
        go_wp2
        go_roundw
        case rel =>
         refine ⟨k + 1, by omega, by go_num, ?_, ?_, by simp; omega, (hb.setCell (by simp; omega) _).alloc (by simp; exact hb.size) _⟩
         · rw [ja2 (by simp; omega), G2.out, HC.out, HC.out, HC.out, HC.out]; simp
         · rw [ja2 (by simp; omega), Below.heap_setCell _ _ _ _ (by simp)]; exact HH1.out
        case measure => simp [intOf]; omega
      · have G2 : Hid _ := heap_setCell_same wr (w.heap.size + 1 + 1) 1 _ 75 (.bool true) HH2.out
        go_wp2
        go_roundw
        case rel =>
         refine ⟨k + 1, by omega, by go_num, ?_, ?_, by simp; omega, (hb.setCell (by simp; omega) _).alloc (by simp; exact hb.size) _⟩
         · rw [ja2 (by simp; omega), G2.out, HC.out, HC.out, HC.out, HC.out]; simp
         · rw [ja2 (by simp; omega), Below.heap_setCell _ _ _ _ (by simp)]; exact HH1.out
        case measure => simp [intOf]; omega
      · have G2 : Hid _ := heap_setCell_same wr (w.heap.size + 1 + 1) 2 _ 75 (.bool true) HH2.out
        go_wp2
        go_roundw
        case rel =>
         refine ⟨k + 1, by omega, by go_num, ?_, ?_, by simp; omega, (hb.setCell (by simp; omega) _).alloc (by simp; exact hb.size) _⟩
         · rw [ja2 (by simp; omega), G2.out, HC.out, HC.out, HC.out, HC.out]; simp
         · rw [ja2 (by simp; omega), Below.heap_setCell _ _ _ _ (by simp)]; exact HH1.out
        case measure => simp [intOf]; omega
      · have G2 : Hid _ := heap_setCell_same wr (w.heap.size + 1 + 1) 3 _ 75 (.bool true) HH2.out
        go_wp2
        go_roundw
        case rel =>
         refine ⟨k + 1, by omega, by go_num, ?_, ?_, by simp; omega, (hb.setCell (by simp; omega) _).alloc (by simp; exact hb.size) _⟩
         · rw [ja2 (by simp; omega), G2.out, HC.out, HC.out, HC.out, HC.out]; simp
         · rw [ja2 (by simp; omega), Below.heap_setCell _ _ _ _ (by simp)]; exact HH1.out
        case measure => simp [intOf]; omega
    · have h8' : (sk == 8) = false := by simpa using h8
      clear hsk
      go_wp2
      go_roundw
      case rel =>
       refine ⟨k + 1, by omega, by go_num, ?_, ?_, by simp; omega, hb.alloc hb.size _⟩
       · rw [ja2 (by omega), HH2.out, HC.out, HC.out, HC.out, HC.out]; simp [h8]
       · rw [ja2 (by omega)]; exact HH1.out
      case measure => simp [intOf]; omega
  · have hkk : k = p.length := by omega
    subst hkk
    rw [List.take_length] at H2
    obtain ⟨c0, c1, c2, c3, f0, f1, f2, f3⟩ := jk3 H2
    obtain ⟨e0, e1, e2, e3, i0, i1, i2, i3⟩ := jk3 H1
    have G := four_setC H1 (.bool (jd2 p 0)) (.bool (jd2 p 1)) (.bool (jd2 p 2)) (.bool (jd2 p 3))
    obtain ⟨d0, d1, d2, d3, _⟩ := jk3 G
    clear H1 H2 G K1 K2 K3 K4 hc
    go_wp2
    refine bodyPost_ret (v := .agg #[.bool (jd2 p 0), .bool (jd2 p 1), .bool (jd2 p 2), .bool (jd2 p 3)]) (by simp [results, Tryz.results72, go_sem, d0, d1, d2, d3]) rfl ?_
    exact ⟨rfl, (((hb.setCell (by simp) _).setCell (by simp) _).setCell (by simp) _).setCell (by simp) _⟩
def jx1 (ps : List (List Stm)) (i : Int) : List Int := if hasB ps i then ju7 (ps.getD i.toNat []) else []
theorem jx4 {ps : List (List Stm)} {i : Int} (h : hasB ps i = true) : ja5 ps = true ∧ ∃ (j : Nat) (hj : j < ps.length), i = (j : Int) ∧ ps.getD i.toNat [] = ps[j] ∧ ps[j].length ≤ 12 ∧ ∀ s ∈ ps[j], jd7 s.k s.x s.y = true := by
 unfold hasB wiB at h
 simp only [Bool.and_eq_true, decide_eq_true_eq] at h
 obtain ⟨h1, h2, h3⟩ := h
 have hj : i.toNat < ps.length := by omega
 obtain ⟨_, _, hpr⟩ := jc1 h1
 have hm := hpr ps[i.toNat] (List.getElem_mem hj)
 exact ⟨h1, i.toNat, hj, by omega, by simp [List.getD, hj], jj5 hm.1, fun s hs => ji1 hm.1 hs⟩
theorem nilOwn (w : World) (base : Nat) : w.ownsRow base 2 1 (.slice none 0 0) ([] : List Int).length (ints []) := ⟨by simp [ints], .inl ⟨rfl, rfl⟩⟩
theorem implCalls (ps : List (List Stm)) (i : Int) (v : Value) (w : World) (hl : ps.length ≤ maxLen) (hp : ∀ p ∈ ps, p.length ≤ maxLen) (hv : jb5 w v ps) :
 Calls Tryz.prog 44 #[.agg #[v], .int .i64 i] w fun e w' => ∃ u, e = .returned u ∧ w'.ownsRow w.heap.size 2 1 u (jx1 ps i).length (ints (jx1 ps i)) ∧ Below w.heap.size w w' := by
 have hb0 : Below w.heap.size w (w.alloc (.cells #[v] 26)) := by go_grown
 have he := hasProc ps i v _ hl hp (ja0 hv hb0)
 have H0 := heap_alloc_new w (.cells #[v] 26)
 have s0 : (w.alloc (.cells #[v] 26)).heap.size = w.heap.size + 1 := by simp
 unfold jx1
 cases hok : hasB ps i
 · rw [hok] at he
   go_enter Tryz.func44, Tryz.ntmps44
   go_wp2_with (go_at_call 42; refine he.mono ?_; rintro e w2 ⟨rfl, b2⟩)
   go_ret
   exact ⟨_, rfl, nilOwn _ _, hb0.trans (b2.mono hb0.size)⟩
 · rw [hok] at he
   rw [if_pos rfl]
   obtain ⟨_, j, hj, rfl, hg, h12, hst⟩ := jx4 hok
   rw [hg, qh2 ps[j] hst]
   obtain ⟨q0, e0⟩ : ∃ q, jd2 ps[j] 0 = q := ⟨_, rfl⟩
   obtain ⟨q1, e1⟩ : ∃ q, jd2 ps[j] 1 = q := ⟨_, rfl⟩
   obtain ⟨q2, e2⟩ : ∃ q, jd2 ps[j] 2 = q := ⟨_, rfl⟩
   obtain ⟨q3, e3⟩ : ∃ q, jd2 ps[j] 3 = q := ⟨_, rfl⟩
   have hcb := calledBy ps[j]
   rw [e0, e1, e2, e3] at hcb ⊢
   clear e0 e1 e2 e3
   clear hok
   go_enter Tryz.func44, Tryz.ntmps44
   go_wp2_with fail
   go_at_call 42
   refine he.mono ?_
   rintro e w2 ⟨rfl, b2⟩
   obtain ⟨c2, f2⟩ := ja4 ((b2.block w.heap.size (by omega)).trans H0)
   have L2 := hb0.trans (b2.mono hb0.size)
   obtain ⟨ao, cap, rfl, hc⟩ := ja0 hv L2
   obtain ⟨g, off, u, rfl, p0, r0⟩ := hc j ps[j] (by simp [hj])
   have hj' : (j : Int) < (ps.length : Int) := by omega
   have h3 := hcb u w2 h12 hst r0
   clear hcb
   have hn := fun b0 b1 b2 b3 => numbersIn [b0, b1, b2, b3]
   clear he hc hg hst hv H0
   unfold maxLen at hl
   obtain ⟨ua, un, uc, rfl⟩ := jz2 r0
   go_wp2_with fail
   go_at_call 72
   refine h3.mono ?_
   rintro e w3 ⟨rfl, b3⟩
   clear h3
   have L3 := L2.trans (b3.mono L2.size)
   have rd : jf8 (w3.alloc (.cells #[.bool q0, .bool q1, .bool q2, .bool q3] 75)) (.slice (some ⟨w3.heap.size, 0, none⟩) 4 4) ([q0, q1, q2, q3].map .bool) := by
    refine ⟨some ⟨w3.heap.size, 0, none⟩, 4, rfl, fun k x hx => ⟨w3.heap.size, 0, rfl, ?_⟩⟩
    obtain ⟨d0, d1, d2, d3, _⟩ := jk3 (heap_alloc_new w3 (.cells #[.bool q0, .bool q1, .bool q2, .bool q3] 75))
    have hk : k < 4 := (List.getElem?_eq_some_iff.1 hx).1
    have : k = 0 ∨ k = 1 ∨ k = 2 ∨ k = 3 := by omega
    rcases this with rfl | rfl | rfl | rfl <;> simp at hx <;> subst hx <;> assumption
   have b4 : Below w3.heap.size w3 (w3.alloc (.cells #[.bool q0, .bool q1, .bool q2, .bool q3] 75)) := by go_grown
   go_wp2_with fail
   go_at_call 45
   refine (hn q0 q1 q2 q3 _ _ (by simp) rd).mono ?_
   rintro e w5 ⟨u5, rfl, own5, b5⟩
   go_wp2
   go_ret
   have L4 := L3.trans (b4.mono L3.size)
   exact ⟨_, rfl, jc4 own5 L4.size, L4.trans (b5.mono L4.size)⟩
end Go.Proofs.YtldagpfeaabcdaaGreatDoor
