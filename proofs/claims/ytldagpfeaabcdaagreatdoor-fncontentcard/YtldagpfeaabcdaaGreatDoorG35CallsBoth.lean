/-
  Put together out of: Content14, TabEx, Numbers, Called, CallsBoth.
-/
import Derived.Test.YtldagpfeaabcdaaGreatDoorCloS14
import Derived.Test.YtldagpfeaabcdaaGreatDoorG32Bld
import Derived.Test.YtldagpfeaabcdaaGreatDoorShowI
import Derived.Test.YtldagpfeaabcdaaGreatDoorShowS
import Derived.Test.YtldagpfeaabcdaaGreatDoorTabM
import Derived.Test.YtldagpfeaabcdaaGreatDoorG16Put
import Derived.Test.YtldagpfeaabcdaaGreatDoorG28Ord14M
/-
  impl.Content, spec.Content.
-/
namespace Go.Proofs.YtldagpfeaabcdaaGreatDoor
open Go.RowKit
set_option linter.unusedVariables false
set_option linter.unusedSimpArgs false
set_option maxHeartbeats 4000000
set_option maxRecDepth 20000

theorem cloA_maxlen (ps : List (List Stm)) (i : Int) : (cloA ps i).length ≤ maxLen ∧ ∀ p ∈ cloA ps i, p.length ≤ maxLen := by
  unfold cloA
  cases hok : hasB ps i
  · simp
  · have hO := (ord14_of hok).1
    have hok1 : programOk ps = true := by unfold hasB at hok; simp only [Bool.and_eq_true] at hok; exact hok.1
    obtain ⟨h4, _, hpr⟩ := programOk_len hok1
    simp only [if_true]
    refine ⟨by rw [clo14_length]; have := hO.o.len; unfold maxLen; omega, fun p hp => ?_⟩
    unfold clo14 at hp
    obtain ⟨t, ht, rfl⟩ := List.mem_map.1 hp
    obtain ⟨h0, h1⟩ := hO.o.inn t ht
    obtain ⟨h2, h3⟩ := getD14 h0 h1
    rw [h3, List.length_map]
    have := procOk_len (hpr _ (List.getElem_mem h2)).1
    unfold maxLen
    omega

/-- What Content answers. -/
def conA (ps : List (List Stm)) (i : Int) : List UInt8 := showA (cloA ps i)

theorem conA_no {ps : List (List Stm)} {i : Int} (h : hasB ps i = false) : conA ps i = [] := by
  unfold conA cloA
  rw [h]
  rfl
theorem cloA_yes {ps : List (List Stm)} {i : Int} (h : hasB ps i = true) : cloA ps i = clo14 ps (ord14 ps i) := by
  unfold cloA
  rw [h]
  rfl

theorem implContent (ps : List (List Stm)) (i : Int) (v : Value) (w : World) (hl : ps.length ≤ maxLen) (hp : ∀ p ∈ ps, p.length ≤ maxLen) (hv : ReadsP w v ps) :
    Calls Tryz.prog 13 #[.agg #[v], .int .i64 i] w fun e w' => e = .returned (.string ⟨(conA ps i).toArray⟩) ∧ Below w.heap.size w w' := by
  obtain ⟨W0, hW0⟩ : ∃ W0, w.alloc (.cells #[v] 26) = W0 := ⟨_, rfl⟩
  have b0 : Below w.heap.size w W0 := by rw [← hW0]; go_grown
  have s0 : W0.heap.size = w.heap.size + 1 := by rw [← hW0]; simp
  have H0 : W0.heap[w.heap.size]? = some (.cells #[v] 26 (0, 0)) := by rw [← hW0]; exact heap_alloc_new w _
  obtain ⟨hm1, hm2⟩ := cloA_maxlen ps i
  have hcl := implClosure ps i v W0 hl hp (readsP_below hv b0)
  have hsh := fun u W => implShow (cloA ps i) u W hm1 hm2
  obtain ⟨D, hD⟩ : ∃ D, showA (cloA ps i) = D := ⟨_, rfl⟩
  have hD2 : conA ps i = D := hD
  rw [hD] at hsh
  rw [hD2]
  have c0 := (one_cell H0).1
  obtain ⟨ao, vcap, rfl, _⟩ := hv
  clear hD hD2
  go_enter Tryz.func13, Tryz.ntmps13
  go_wp2_with fail
  go_at_call 8
  refine hcl.mono ?_
  rintro e w1 ⟨u, us, rfl, o1, b1⟩
  have L1 : Below w.heap.size w w1 := below_le b0 b1 (by omega)
  have hsh1 := hsh u w1 (readsP_own o1.ownP)
  obtain ⟨ua, um, uc, rfl⟩ := own_slice o1.row
  clear hcl c0 H0 b0 hW0 hsh o1 b1
  go_wp2_with fail
  go_at_call 35
  refine hsh1.mono ?_
  rintro e w2 ⟨rfl, b2⟩
  have L2 : Hid (Below w.heap.size w w2) := below_le L1 b2 L1.size
  clear hsh1 L1 b2
  go_wp2
  go_ret
  exact ⟨rfl, L2.out⟩

theorem specContent (ps : List (List Stm)) (i : Int) (v : Value) (w : World) (hl : ps.length ≤ maxLen) (hp : ∀ p ∈ ps, p.length ≤ maxLen) (hv : ReadsP w v ps) :
    Calls Tryz.prog 14 #[.agg #[v], .int .i64 i] w fun e w' => e = .returned (.string ⟨(conA ps i).toArray⟩) ∧ Below w.heap.size w w' := by
  obtain ⟨W0, hW0⟩ : ∃ W0, w.alloc (.cells #[v] 26) = W0 := ⟨_, rfl⟩
  have b0 : Below w.heap.size w W0 := by rw [← hW0]; go_grown
  have s0 : W0.heap.size = w.heap.size + 1 := by rw [← hW0]; simp
  have H0 : W0.heap[w.heap.size]? = some (.cells #[v] 26 (0, 0)) := by rw [← hW0]; exact heap_alloc_new w _
  have hin := l3In ps i v W0 hl hp (readsP_below hv b0)
  have c0 := (one_cell H0).1
  cases hok : hasB ps i
  · rw [conA_no hok]
    rw [hok] at hin
    clear hok
    obtain ⟨ao, vcap, rfl, _⟩ := hv
    go_enter Tryz.func14, Tryz.ntmps14
    go_wp2_with fail
    go_at_call 33
    refine hin.mono ?_
    rintro e w1 ⟨rfl, b1⟩
    have L1 : Hid (Below w.heap.size w w1) := below_le b0 b1 (by omega)
    clear hin c0 H0 b0 b1 hW0
    go_wp2
    go_ret
    exact ⟨rfl, L1.out⟩
  · rw [hok] at hin
    obtain ⟨hm1, hm2⟩ := cloA_maxlen ps i
    have hcl := fun W hW => l14Closure ps i v W hok hW
    have hsh := fun u W => specShow (cloA ps i) u W hm1 hm2
    obtain ⟨D, hD⟩ : ∃ D, showA (cloA ps i) = D := ⟨_, rfl⟩
    have hD2 : conA ps i = D := hD
    rw [hD] at hsh
    rw [hD2]
    rw [← cloA_yes hok] at hcl
    have HHV : Hid _ := hv
    obtain ⟨ao, vcap, rfl, _⟩ := hv
    clear hD hD2 hok
    go_enter Tryz.func14, Tryz.ntmps14
    go_wp2_with fail
    go_at_call 33
    refine hin.mono ?_
    rintro e w1 ⟨rfl, b1⟩
    have s1 := b1.size
    have H1 := (b1.block w.heap.size (by omega)).trans H0
    have L1 : Below w.heap.size w w1 := below_le b0 b1 (by omega)
    have hcl1 := hcl w1 (readsP_below HHV.out L1)
    have c1 := (one_cell H1).1
    clear hin c0 H0 b0 b1 hcl hW0
    go_wp2_with fail
    go_at_call 34
    refine hcl1.mono ?_
    rintro e w2 ⟨u, us, rfl, o2, b2⟩
    have L2 : Below w.heap.size w w2 := below_le L1 b2 (by omega)
    have hsh2 := hsh u w2 (readsP_own o2.ownP)
    obtain ⟨ua, um, uc, rfl⟩ := own_slice o2.row
    clear hcl1 c1 H1 L1 hsh o2 b2
    go_wp2_with fail
    go_at_call 36
    refine hsh2.mono ?_
    rintro e w3 ⟨rfl, b3⟩
    have L3 : Hid (Below w.heap.size w w3) := below_le L2 b3 L2.size
    clear hsh2 L2 b3
    go_wp2
    go_ret
    exact ⟨rfl, L3.out⟩

end Go.Proofs.YtldagpfeaabcdaaGreatDoor

/-
  Chapter 10, mathematics: the least relations and tables are there; what the functions of the chapter answer.
-/
namespace Go.Proofs.YtldagpfeaabcdaaGreatDoor
open Go.RowKit
set_option linter.unusedVariables false
set_option maxHeartbeats 1000000

theorem inner_some {E : Nat → List Int} {ss : List Stm} (hp : procOk ss = true) (hE : ∀ i, i < ss.length → Smalls (E i)) : ∃ R, R.length = ss.length ∧ IsInner E ss R := by
  obtain ⟨hpos, _, _⟩ := procOk_parts hp
  have main : ∀ n R, InnS E ss R → roomT R = n → ∃ R, R.length = ss.length ∧ IsInner E ss R := by
    intro n
    induction n using Nat.strongRecOn with
    | ind n ih =>
      intro R h hn
      by_cases hc : Clo E ss R
      · exact ⟨R, h.len, h.good, hc, h.und⟩
      · have : ∃ (i : Nat) (hi : i < ss.length) (x : Int), x ∈ nextsS ss[i] i ∧ ¬ SubR (comp (R.getD i []) (E i)) (R.getD x.toNat []) := by
          refine Classical.byContradiction fun hno => hc ⟨h.unit, fun i hi x hx => Classical.byContradiction fun hs => hno ⟨i, hi, x, hx, hs⟩⟩
        obtain ⟨i, hi, x, hx, hs⟩ := this
        have hxl := next_lt hp hi hx
        have hr := comp_smalls (h.good i hi) (hE i hi)
        have P := (Pss.begin h).put hxl hr (fun C hC hc => h.goes hi (hE i hi) x hx C hC hc) (fun e => hs (sub_of_joi (h.good _ hxl) hr e))
        rcases P.st with ⟨e, _⟩ | ⟨_, e⟩
        · cases e
        · exact ih _ (by omega) _ P.inn rfl
  exact main _ _ (InnS.begin hpos) rfl

theorem getD_map_range (n : Nat) (f : Nat → List Int) {i : Nat} (hi : i < n) : ((List.range n).map f).getD i [] = f i := by
  simp [List.getD, hi]

theorem round_some {c : Int} (hc : c = 1 ∨ c = 2) {ps : List (List Stm)} (hp : CanP ps) {T : List (List Int)} (hT : GoodN ps.length T) : ∃ T', T'.length = ps.length ∧ IsRound c ps T T' := by
  have h : ∀ i (hi : i < ps.length), ∃ R, IsInner (effN c T ps[i]) ps[i] R := fun i hi => by
    obtain ⟨R, _, h⟩ := inner_some (hp i hi).1 (fun j hj => effN_smalls hc hp hT hi hj)
    exact ⟨R, h⟩
  refine ⟨(List.range ps.length).map (fun i => if hi : i < ps.length then backs ps[i] (Classical.choose (h i hi)) else []), by simp, fun i hi => ?_⟩
  refine ⟨Classical.choose (h i hi), Classical.choose_spec (h i hi), ?_⟩
  rw [getD_map_range _ _ hi, dif_pos hi]

theorem tables_some {c : Int} (hc : c = 1 ∨ c = 2) {ps : List (List Stm)} (hp : CanP ps) : ∃ T, T.length = ps.length ∧ IsTables c ps T := by
  have main : ∀ n T, T.length = ps.length → Ris c ps T → roomT T = n → ∃ T, T.length = ps.length ∧ IsTables c ps T := by
    intro n
    induction n using Nat.strongRecOn with
    | ind n ih =>
      intro T hl h hn
      obtain ⟨T', hl', hr⟩ := round_some hc hp h.good
      by_cases e : T' = T
      · subst e; exact ⟨T', hl, h.last hr⟩
      · have := roomT_ne (T := T) (U := T') (by omega) (by rw [hl]; exact h.good) (by rw [hl]; exact hr.good) (by rw [hl]; exact h.up T' hr) (fun e' => e e'.symm)
        exact ih _ (by omega) T' hl' (h.next hc hp hr) rfl
  exact main _ (List.replicate ps.length zero7) (by simp) (Ris.zero (fun i hi => by simp [List.getD, hi])) rfl

/-- Are program and client right? -/
def okB (ps : List (List Stm)) (c : Int) : Bool := programOk ps && decide (c = 1 ∨ c = 2)

theorem okB_parts {ps : List (List Stm)} {c : Int} (h : okB ps c = true) : programOk ps = true ∧ (c = 1 ∨ c = 2) ∧ CanP ps ∧ ps.length ≤ 4 := by
  unfold okB at h
  simp only [Bool.and_eq_true, decide_eq_true_eq] at h
  have h1 := h.1
  unfold programOk at h1
  simp only [Bool.and_eq_true, decide_eq_true_eq] at h1
  exact ⟨h.1, h.2, canP_of h.1, by omega⟩

/-- What Tables answers. -/
def TabA (ps : List (List Stm)) (c : Int) (T : List (List Int)) : Prop := (okB ps c = true → T.length = ps.length ∧ IsTables c ps T) ∧ (okB ps c = false → T = [])

theorem tabA_some (ps : List (List Stm)) (c : Int) : ∃ T, TabA ps c T := by
  cases h : okB ps c with
  | false => exact ⟨[], by simp [h], fun _ => rfl⟩
  | true =>
    obtain ⟨_, hc, hp, _⟩ := okB_parts h
    obtain ⟨T, h1, h2⟩ := tables_some hc hp
    exact ⟨T, fun _ => ⟨h1, h2⟩, by simp [h]⟩

theorem tables_eq {c : Int} {ps : List (List Stm)} {T U : List (List Int)} (h : IsTables c ps T) (k : IsTables c ps U) (hl : T.length = ps.length) (hk : U.length = ps.length) : T = U :=
  list_getD (by omega) (fun i hi => h.uniq k (by omega))

theorem inner_same {E : Nat → List Int} {ss : List Stm} {R R' : List (List Int)} (h : IsInner E ss R) (k : IsInner E ss R') (hl : R.length = ss.length) (hk : R'.length = ss.length) : R = R' :=
  list_getD (by omega) (fun i hi => h.uniq k (by omega))

theorem tabA_len {ps : List (List Stm)} {c : Int} {T : List (List Int)} (h : TabA ps c T) : T.length ≤ 1000 ∧ ∀ xs ∈ T, xs.length ≤ 1000 := by
  cases hb : okB ps c with
  | false => rw [h.2 hb]; simp
  | true =>
    obtain ⟨hl, ht⟩ := h.1 hb
    obtain ⟨_, _, _, h4⟩ := okB_parts hb
    refine ⟨by omega, fun xs hx => ?_⟩
    obtain ⟨j, hj, rfl⟩ := List.getElem_of_mem hx
    have := (ht.good j (by omega)).1
    have e : T.getD j [] = T[j] := by simp [List.getD, hj]
    rw [e] at this
    omega

/-- What Effect answers. -/
def canB (ps : List (List Stm)) (c : Int) (s : Stm) : Bool := okB ps c && (stmtOk s.k s.x s.y && (decide (s.k ≠ 8) || decide (s.y < ps.length)))
def EffA (ps : List (List Stm)) (c : Int) (s : Stm) (A : List Int) : Prop := (canB ps c s = true → ∃ T, T.length = ps.length ∧ IsTables c ps T ∧ A = effL c T s) ∧ (canB ps c s = false → A = [])

theorem canB_parts {ps : List (List Stm)} {c : Int} {s : Stm} (h : canB ps c s = true) : okB ps c = true ∧ CanS ps.length s := by
  unfold canB at h
  simp only [Bool.and_eq_true, Bool.or_eq_true, decide_eq_true_eq] at h
  refine ⟨h.1, h.2.1, fun h8 => ?_⟩
  rcases h.2.2 with h' | h'
  · exact absurd h8 h'
  · exact h'

theorem effA_some (ps : List (List Stm)) (c : Int) (s : Stm) : ∃ A, EffA ps c s A ∧ A.length ≤ 7 := by
  cases h : canB ps c s with
  | false => exact ⟨[], ⟨by simp [h], fun _ => rfl⟩, by simp⟩
  | true =>
    obtain ⟨hb, hs⟩ := canB_parts h
    obtain ⟨_, hc, hp, _⟩ := okB_parts hb
    obtain ⟨T, h1, h2⟩ := tables_some hc hp
    exact ⟨effL c T s, ⟨fun _ => ⟨T, h1, h2, rfl⟩, by simp [h]⟩, Nat.le_of_eq (effL_smalls hc h2.good hs).1⟩

/-- What Inner answers. -/
def inB10 (ps : List (List Stm)) (c i : Int) : Bool := okB ps c && (decide (0 ≤ i) && decide (i < ps.length))
def InnA (ps : List (List Stm)) (c i : Int) (A : List (List Int)) : Prop :=
  (inB10 ps c i = true → ∃ (T : List (List Int)) (h : i.toNat < ps.length), T.length = ps.length ∧ IsTables c ps T ∧ A.length = ps[i.toNat].length ∧ IsInner (effN c T ps[i.toNat]) ps[i.toNat] A) ∧ (inB10 ps c i = false → A = [])

theorem inB10_parts {ps : List (List Stm)} {c i : Int} (h : inB10 ps c i = true) : okB ps c = true ∧ ∃ j : Nat, i = j ∧ j < ps.length := by
  unfold inB10 at h
  simp only [Bool.and_eq_true, decide_eq_true_eq] at h
  exact ⟨h.1, i.toNat, by omega, by omega⟩

theorem innA_some (ps : List (List Stm)) (c i : Int) : ∃ A, InnA ps c i A := by
  cases h : inB10 ps c i with
  | false => exact ⟨[], by simp [h], fun _ => rfl⟩
  | true =>
    obtain ⟨hb, j, rfl, hj⟩ := inB10_parts h
    obtain ⟨_, hc, hp, _⟩ := okB_parts hb
    obtain ⟨T, h1, h2⟩ := tables_some hc hp
    obtain ⟨R, h3, h4⟩ := inner_some (hp j hj).1 (fun k hk => effN_smalls hc hp h2.good hj hk)
    exact ⟨R, fun _ => ⟨T, by simpa using hj, h1, h2, h3, h4⟩, by simp [h]⟩

theorem innA_len {ps : List (List Stm)} {c i : Int} {A : List (List Int)} (h : InnA ps c i A) : A.length ≤ 1000 ∧ ∀ xs ∈ A, xs.length ≤ 1000 := by
  cases hb : inB10 ps c i with
  | false => rw [h.2 hb]; simp
  | true =>
    obtain ⟨T, hi, _, _, hl, ht⟩ := h.1 hb
    obtain ⟨ho, j, rfl, hj⟩ := inB10_parts hb
    obtain ⟨_, _, hp, _⟩ := okB_parts ho
    have h12 := (procOk_parts (hp _ hi).1).2.1
    refine ⟨by omega, fun xs hx => ?_⟩
    obtain ⟨j, hj, rfl⟩ := List.getElem_of_mem hx
    have := (ht.good j (by omega)).1
    have e : A.getD j [] = A[j] := by simp [List.getD, hj]
    rw [e] at this
    omega

/-- What Holds answers. -/
def relsB (ps : List (List Stm)) (c : Int) (X : List (List Int)) : Bool := okB ps c && (decide (X.length = ps.length) && X.all relOk)
def withB (T X : List (List Int)) : Nat → Bool
  | 0 => true
  | k + 1 => withB T X k && withinAns (T.getD k []) (X.getD k [])
def HoldA (ps : List (List Stm)) (c : Int) (X : List (List Int)) (b : Bool) : Prop :=
  (relsB ps c X = true → ∃ T, T.length = ps.length ∧ IsRound c ps X T ∧ b = withB T X ps.length) ∧ (relsB ps c X = false → b = false)

theorem relsB_parts {ps : List (List Stm)} {c : Int} {X : List (List Int)} (h : relsB ps c X = true) : okB ps c = true ∧ X.length = ps.length ∧ GoodN ps.length X ∧ ∀ x ∈ X, relOk x = true := by
  unfold relsB at h
  simp only [Bool.and_eq_true, decide_eq_true_eq, List.all_eq_true] at h
  refine ⟨h.1, h.2.1, fun i hi => ?_, h.2.2⟩
  have hi' : i < X.length := by omega
  have e : X.getD i [] = X[i] := by simp [List.getD, hi']
  rw [e]
  exact relOk_iff.1 (h.2.2 _ (List.getElem_mem hi'))

theorem holdA_some (ps : List (List Stm)) (c : Int) (X : List (List Int)) : ∃ b, HoldA ps c X b := by
  cases h : relsB ps c X with
  | false => exact ⟨false, by simp [h], fun _ => rfl⟩
  | true =>
    obtain ⟨hb, hl, hg, _⟩ := relsB_parts h
    obtain ⟨_, hc, hp, _⟩ := okB_parts hb
    obtain ⟨T, h1, h2⟩ := round_some hc hp hg
    exact ⟨_, fun _ => ⟨T, h1, h2, rfl⟩, by simp [h]⟩

theorem round_same {c : Int} {ps : List (List Stm)} {T U V : List (List Int)} (h : IsRound c ps T U) (k : IsRound c ps T V) (hl : U.length = ps.length) (hk : V.length = ps.length) : U = V :=
  list_getD (by omega) (fun i hi => round_uniq h k (by omega))

end Go.Proofs.YtldagpfeaabcdaaGreatDoor

/-
  impl.numbersIn.
-/
namespace Go.Proofs.YtldagpfeaabcdaaGreatDoor
open Go.RowKit
set_option linter.unusedVariables false
set_option maxHeartbeats 1000000

/-- The numbers in a set, from i on. -/
def nums : List Bool → Int → List Int
  | [], _ => []
  | b :: bs, i => if b then i :: nums bs (i + 1) else nums bs (i + 1)

theorem nums_snoc : ∀ (bs : List Bool) (b : Bool) (i : Int), nums (bs ++ [b]) i = nums bs i ++ (if b then [i + bs.length] else [])
  | [], b, i => by cases b <;> simp [nums]
  | c :: bs, b, i => by
    have e : i + 1 + (bs.length : Int) = i + ((bs.length : Int) + 1) := by omega
    cases c <;> simp [nums, nums_snoc bs b (i + 1), e]

theorem nums_length : ∀ (bs : List Bool) (i : Int), (nums bs i).length ≤ bs.length
  | [], _ => by simp [nums]
  | b :: bs, i => by
    have := nums_length bs (i + 1)
    cases b <;> simp [nums] <;> omega

theorem numbersIn (bs : List Bool) (v : Value) (w : World) (hl : bs.length ≤ 1000000) (hv : Reads w v (bs.map .bool)) :
    Calls Tryz.prog 45 #[v] w fun e w' => ∃ u, e = .returned u ∧ w'.ownsRow w.heap.size 2 1 u (nums bs 0).length (ints (nums bs 0)) ∧ Below w.heap.size w w' := by
  obtain ⟨i0, hi, hz0, hz1, hz2⟩ := info_parts infoInt
  obtain ⟨ao, cap, rfl, hc⟩ := hv
  simp only [List.length_map]
  obtain ⟨R, hR⟩ : ∃ R, nums bs 0 = R := ⟨_, rfl⟩
  rw [hR]
  have HR : Hid _ := hR
  clear hR
  go_enter Tryz.func45, Tryz.ntmps45
  go_wp2
  go_loopw [3, 8] (fun o i wr => ∃ (k : Nat), k ≤ bs.length ∧ i = .int .i64 k ∧
      wr.ownsRow w.heap.size 2 1 o (nums (bs.take k) 0).length (ints (nums (bs.take k) 0)) ∧ Below w.heap.size w wr) (fun _ i _ => bs.length - (intOf i).toNat)
  case atStart => exact ⟨0, Nat.zero_le _, rfl, ⟨by simp [nums, ints], .inl ⟨rfl, by simp [nums]⟩⟩, Below.refl _ _⟩
  case round =>
    obtain ⟨k, hk, rfl, hown, hb⟩ := hrel
    by_cases hlt : k < bs.length
    · have hlt' : (k : Int) < (bs.length : Int) := by omega
      obtain ⟨g, off, rfl, a0⟩ := hc k (.bool bs[k]) (by simp [hlt])
      have a0 := (hb.cell (World.block_lt_of_cell? w _ a0)).trans a0
      have hsn : nums (bs.take (k + 1)) 0 = nums (bs.take k) 0 ++ (if bs[k] then [(k : Int)] else []) := by
        rw [List.take_succ_eq_append_getElem hlt, nums_snoc, Int.zero_add, List.length_take, Nat.min_eq_left (by omega)]
      have HS : Hid _ := hsn
      have hlen := nums_length (bs.take k) 0
      have hlen2 : (bs.take k).length ≤ k := List.length_take_le _ _
      clear hc hsn
      generalize bs[k] = b at *
      generalize nums (bs.take k) 0 = xs at *
      cases b
      · have HP : Hid (nums (bs.take (k + 1)) 0 = xs) := HS.out.trans (by simp)
        go_wp2
        go_roundw
        case rel => exact ⟨k + 1, by omega, by go_num, by rw [HP.out]; exact hown, hb⟩
        case measure => simp [intOf]; omega
      · have HP : Hid (nums (bs.take (k + 1)) 0 = xs ++ [(k : Int)]) := HS.out
        have B1 : Hid (Below w.heap.size w (wr.alloc (.cells #[.int .i64 (k : Int)] 2))) := hb.alloc hb.size _
        have sz := hb.size
        have HSZ : Hid (w.heap.size ≤ (wr.alloc (.cells #[.int .i64 (k : Int)] 2)).heap.size) := by
          show w.heap.size ≤ (wr.alloc (.cells #[.int .i64 (k : Int)] 2)).heap.size
          simp; omega
        clear HS
        go_wp2_with (first
          | (at_builtin; refine wpList_append_own _ rfl (.tmp 14) (.tmp 16) 38 rfl w.heap.size 2 i0 (.int .i64 0) 1 8 Tryz.underlying38 hi hz0 hz1 hz2 rfl (by decide) _ _ _ rfl (hown.alloc _) ⟨wr.heap.size, 0, none⟩ 1 _ [.int .i64 (k : Int)] rfl rfl (cell_one wr k) (ints_oneCell [(k : Int)]) (by unfold maxLen; omega) (by omega) HSZ.out ?_; intro v2 w2 own2 grow2 _; have L2 := below_app B1.out grow2 (fun q hq => (hown.lt q hq).1))
          | go_in)
        have own3 : Hid (w2.ownsRow w.heap.size 2 1 v2 (xs ++ [(k : Int)]).length (ints (xs ++ [(k : Int)]))) := by
          show w2.ownsRow w.heap.size 2 1 v2 (xs ++ [(k : Int)]).length (ints (xs ++ [(k : Int)]))
          simpa [ints] using own2
        go_roundw
        case rel => exact ⟨k + 1, by omega, by go_num, by rw [HP.out]; exact own3.out, L2⟩
        case measure => simp [intOf]; omega
    · have hkk : k = bs.length := by omega
      subst hkk
      rw [List.take_length, HR.out] at hown
      go_wp2
      go_ret
      exact ⟨_, rfl, hown, hb⟩

end Go.Proofs.YtldagpfeaabcdaaGreatDoor

/-
  impl.numbersIn, impl.calledBy; spec.Calls, impl.Calls.
-/
namespace Go.Proofs.YtldagpfeaabcdaaGreatDoor
open Go.RowKit
set_option linter.unusedVariables false
set_option maxHeartbeats 1000000

/-- Does the procedure call number i? -/
def called (p : List Stm) (i : Int) : Bool := p.any (fun s => decide (s.k = 8) && decide (s.y = i))

theorem called_snoc (p : List Stm) (k : Nat) (h : k < p.length) (i : Int) : called (p.take (k + 1)) i = (called (p.take k) i || (decide (p[k].k = 8) && decide (p[k].y = i))) := by
  rw [called, List.take_succ_eq_append_getElem h, List.any_append]
  simp [called]

theorem four_cellsC {w : World} {b : Nat} {x0 x1 x2 x3 : Value} {T : TypeId} (h : w.heap[b]? = some (.cells #[x0, x1, x2, x3] T (0, 0))) :
    w.cell? ⟨b, 0, none⟩ = some x0 ∧ w.cell? ⟨b, 1, none⟩ = some x1 ∧ w.cell? ⟨b, 2, none⟩ = some x2 ∧ w.cell? ⟨b, 3, none⟩ = some x3 ∧
      w.frozen? ⟨b, 0, none⟩ = false ∧ w.frozen? ⟨b, 1, none⟩ = false ∧ w.frozen? ⟨b, 2, none⟩ = false ∧ w.frozen? ⟨b, 3, none⟩ = false := by
  refine ⟨?_, ?_, ?_, ?_, ?_, ?_, ?_, ?_⟩ <;> simp [World.cell?, World.frozen?, h]

theorem callsOf_eq (p : List Stm) (hp : ∀ s ∈ p, stmtOk s.k s.x s.y = true) : callsOf p = nums [called p 0, called p 1, called p 2, called p 3] 0 := by
  have hput : ∀ (y : Int) (b0 b1 b2 b3 : Bool), 0 ≤ y → y ≤ 3 → ins y (nums [b0, b1, b2, b3] 0) = nums [b0 || decide (y = 0), b1 || decide (y = 1), b2 || decide (y = 2), b3 || decide (y = 3)] 0 := by
    intro y b0 b1 b2 b3 h0 h3
    have : y = 0 ∨ y = 1 ∨ y = 2 ∨ y = 3 := by omega
    rcases this with rfl | rfl | rfl | rfl <;> cases b0 <;> cases b1 <;> cases b2 <;> cases b3 <;> rfl
  have key : ∀ (p : List Stm), (∀ s ∈ p, stmtOk s.k s.x s.y = true) → ∀ (b0 b1 b2 b3 : Bool),
      p.foldl putCall (nums [b0, b1, b2, b3] 0) = nums [b0 || called p 0, b1 || called p 1, b2 || called p 2, b3 || called p 3] 0 := by
    intro p
    induction p with
    | nil => intro _ b0 b1 b2 b3; simp [called]
    | cons s p ih =>
      intro hs b0 b1 b2 b3
      have h1 := hs s (by simp)
      have ih := ih (fun t ht => hs t (by simp [ht]))
      obtain ⟨k, x, y⟩ := s
      simp only at h1
      by_cases h8 : k = 8
      · subst h8
        obtain ⟨y0, y3⟩ := stmtOk_call h1
        rw [List.foldl_cons, putCall, if_pos rfl, hput y b0 b1 b2 b3 y0 y3, ih]
        simp [called, Bool.or_assoc]
      · rw [List.foldl_cons, putCall, if_neg h8, ih]
        simp [called, h8]
  have := key p hp false false false false
  simpa [callsOf, nums] using this

end Go.Proofs.YtldagpfeaabcdaaGreatDoor

/-
  impl.calledBy; spec.Calls, impl.Calls.
-/
namespace Go.Proofs.YtldagpfeaabcdaaGreatDoor
open Go.RowKit
set_option linter.unusedVariables false
set_option maxHeartbeats 1000000

theorem four_setC {w : World} {b : Nat} {p0 p1 p2 p3 : Value} {t : TypeId} (h : w.heap[b]? = some (.cells #[p0, p1, p2, p3] t (0, 0))) (x0 x1 x2 x3 : Value) :
    ((((w.setCell ⟨b, 0, none⟩ x0).setCell ⟨b, 1, none⟩ x1).setCell ⟨b, 2, none⟩ x2).setCell ⟨b, 3, none⟩ x3).heap[b]? = some (.cells #[x0, x1, x2, x3] t (0, 0)) := by
  have h1 := heap_setCell_same w b 0 _ t x0 h
  have h2 := heap_setCell_same _ b 1 _ t x1 h1
  have h3 := heap_setCell_same _ b 2 _ t x2 h2
  have h4 := heap_setCell_same _ b 3 _ t x3 h3
  simpa using h4

abbrev b4 (p : List Stm) : Array Value := #[.bool (called p 0), .bool (called p 1), .bool (called p 2), .bool (called p 3)]

theorem calledBy (p : List Stm) (v : Value) (w : World) (hl : p.length ≤ 12) (hok : ∀ s ∈ p, stmtOk s.k s.x s.y = true) (hv : Reads3 w v p) :
    Calls Tryz.prog 72 #[.agg #[v]] w fun e w' => e = .returned (.agg #[.bool (called p 0), .bool (called p 1), .bool (called p 2), .bool (called p 3)]) ∧ Below w.heap.size w w' := by
  obtain ⟨ao, cap, rfl, hc⟩ := hv
  have hq : (p.length : Int) ≤ 12 := by omega
  go_enter Tryz.func72, Tryz.ntmps72
  go_wp2
  have hl3 := laid3 (w := w) (a := .cells #[.slice ao p.length cap] 63) (b := .cells #[.bool false, .bool false, .bool false, .bool false] 75) (c := .cells #[.bool false, .bool false, .bool false, .bool false] 75) (Below.refl _ _)
  obtain ⟨_, K1, K2, K3, K4⟩ := hl3
  generalize ((w.alloc (.cells #[.slice ao p.length cap] 63)).alloc (.cells #[.bool false, .bool false, .bool false, .bool false] 75)).alloc (.cells #[.bool false, .bool false, .bool false, .bool false] 75) = W at *
  go_loopw [9] (fun i wr => ∃ (k : Nat), k ≤ p.length ∧ i = .int .i64 k ∧ wr.heap[w.heap.size + 1 + 1]? = some (.cells #[.bool (called (p.take k) 0), .bool (called (p.take k) 1), .bool (called (p.take k) 2), .bool (called (p.take k) 3)] 75 (0, 0)) ∧
      wr.heap[w.heap.size + 1]? = some (.cells #[.bool false, .bool false, .bool false, .bool false] 75 (0, 0)) ∧ w.heap.size + 3 ≤ wr.heap.size ∧ Below w.heap.size w wr) (fun i _ => p.length - (intOf i).toNat)
  case atStart => exact ⟨0, Nat.zero_le _, rfl, by simpa [called] using K2, K1, K3, K4⟩
  case round =>
    obtain ⟨k, hk, rfl, H2, H1, hsz, hb⟩ := hrel
    by_cases hlt : k < p.length
    · have hlt' : (k : Int) < (p.length : Int) := by omega
      obtain ⟨g, off, rfl, a0, a1, a2⟩ := hc k p[k] (by simp [hlt])
      have aB := World.block_lt_of_cell? w _ a0
      have a0 := (hb.cell aB).trans a0
      have a1 := (hb.cell (p := ⟨g, off + k * 3 + 1, none⟩) aB).trans a1
      have a2 := (hb.cell (p := ⟨g, off + k * 3 + 2, none⟩) aB).trans a2
      have hsk := hok p[k] (List.getElem_mem hlt)
      have hcs := called_snoc p k hlt
      clear hc hok K1 K2 K3 K4
      generalize p[k] = s at *
      obtain ⟨sk, sx, sy⟩ := s
      simp only at a0 a1 a2 hsk hcs
      obtain ⟨c0, c1, c2, c3, f0, f1, f2, f3⟩ := four_cellsC H2
      have HH1 : Hid (wr.heap[w.heap.size + 1]? = some (.cells #[.bool false, .bool false, .bool false, .bool false] 75 (0, 0))) := H1
      have HH2 : Hid _ := H2
      have HC : Hid _ := hcs
      clear H1 H2 hcs
      have hz2 : w.heap.size + 1 + 1 < wr.heap.size := by omega
      by_cases h8 : sk = 8
      · subst h8
        have hy := stmtOk_call hsk
        have hy' : sy = 0 ∨ sy = 1 ∨ sy = 2 ∨ sy = 3 := by omega
        clear hy hsk
        rcases hy' with rfl | rfl | rfl | rfl
        · have G2 : Hid _ := heap_setCell_same wr (w.heap.size + 1 + 1) 0 _ 75 (.bool true) HH2.out
          go_wp2
          go_roundw
          case rel =>
            refine ⟨k + 1, by omega, by go_num, ?_, ?_, by simp; omega, (hb.setCell (by simp; omega) _).alloc (by simp; exact hb.size) _⟩
            · rw [old_block (by simp; omega), G2.out, HC.out, HC.out, HC.out, HC.out]; simp
            · rw [old_block (by simp; omega), Below.heap_setCell _ _ _ _ (by simp)]; exact HH1.out
          case measure => simp [intOf]; omega
        · have G2 : Hid _ := heap_setCell_same wr (w.heap.size + 1 + 1) 1 _ 75 (.bool true) HH2.out
          go_wp2
          go_roundw
          case rel =>
            refine ⟨k + 1, by omega, by go_num, ?_, ?_, by simp; omega, (hb.setCell (by simp; omega) _).alloc (by simp; exact hb.size) _⟩
            · rw [old_block (by simp; omega), G2.out, HC.out, HC.out, HC.out, HC.out]; simp
            · rw [old_block (by simp; omega), Below.heap_setCell _ _ _ _ (by simp)]; exact HH1.out
          case measure => simp [intOf]; omega
        · have G2 : Hid _ := heap_setCell_same wr (w.heap.size + 1 + 1) 2 _ 75 (.bool true) HH2.out
          go_wp2
          go_roundw
          case rel =>
            refine ⟨k + 1, by omega, by go_num, ?_, ?_, by simp; omega, (hb.setCell (by simp; omega) _).alloc (by simp; exact hb.size) _⟩
            · rw [old_block (by simp; omega), G2.out, HC.out, HC.out, HC.out, HC.out]; simp
            · rw [old_block (by simp; omega), Below.heap_setCell _ _ _ _ (by simp)]; exact HH1.out
          case measure => simp [intOf]; omega
        · have G2 : Hid _ := heap_setCell_same wr (w.heap.size + 1 + 1) 3 _ 75 (.bool true) HH2.out
          go_wp2
          go_roundw
          case rel =>
            refine ⟨k + 1, by omega, by go_num, ?_, ?_, by simp; omega, (hb.setCell (by simp; omega) _).alloc (by simp; exact hb.size) _⟩
            · rw [old_block (by simp; omega), G2.out, HC.out, HC.out, HC.out, HC.out]; simp
            · rw [old_block (by simp; omega), Below.heap_setCell _ _ _ _ (by simp)]; exact HH1.out
          case measure => simp [intOf]; omega
      · have h8' : (sk == 8) = false := by simpa using h8
        clear hsk
        go_wp2
        go_roundw
        case rel =>
          refine ⟨k + 1, by omega, by go_num, ?_, ?_, by simp; omega, hb.alloc hb.size _⟩
          · rw [old_block (by omega), HH2.out, HC.out, HC.out, HC.out, HC.out]; simp [h8]
          · rw [old_block (by omega)]; exact HH1.out
        case measure => simp [intOf]; omega
    · have hkk : k = p.length := by omega
      subst hkk
      rw [List.take_length] at H2
      obtain ⟨c0, c1, c2, c3, f0, f1, f2, f3⟩ := four_cellsC H2
      obtain ⟨e0, e1, e2, e3, i0, i1, i2, i3⟩ := four_cellsC H1
      have G := four_setC H1 (.bool (called p 0)) (.bool (called p 1)) (.bool (called p 2)) (.bool (called p 3))
      obtain ⟨d0, d1, d2, d3, _⟩ := four_cellsC G
      clear H1 H2 G K1 K2 K3 K4 hc
      go_wp2
      refine bodyPost_ret (v := .agg #[.bool (called p 0), .bool (called p 1), .bool (called p 2), .bool (called p 3)]) (by simp [results, Tryz.results72, go_sem, d0, d1, d2, d3]) rfl ?_
      exact ⟨rfl, (((hb.setCell (by simp) _).setCell (by simp) _).setCell (by simp) _).setCell (by simp) _⟩

/-- What both answer. -/
def callsAns (ps : List (List Stm)) (i : Int) : List Int := if hasB ps i then callsOf (ps.getD i.toNat []) else []

theorem hasB_true {ps : List (List Stm)} {i : Int} (h : hasB ps i = true) : programOk ps = true ∧ ∃ (j : Nat) (hj : j < ps.length), i = (j : Int) ∧ ps.getD i.toNat [] = ps[j] ∧ ps[j].length ≤ 12 ∧ ∀ s ∈ ps[j], stmtOk s.k s.x s.y = true := by
  unfold hasB wiB at h
  simp only [Bool.and_eq_true, decide_eq_true_eq] at h
  obtain ⟨h1, h2, h3⟩ := h
  have hj : i.toNat < ps.length := by omega
  obtain ⟨_, _, hpr⟩ := programOk_len h1
  have hm := hpr ps[i.toNat] (List.getElem_mem hj)
  exact ⟨h1, i.toNat, hj, by omega, by simp [List.getD, hj], procOk_len hm.1, fun s hs => procOk_stm hm.1 hs⟩

theorem callsAns_length (ps : List (List Stm)) (i : Int) : (callsAns ps i).length ≤ 12 := by
  unfold callsAns
  cases hok : hasB ps i
  · simp
  · rw [if_pos rfl]
    obtain ⟨_, j, hj, rfl, hg, h12, _⟩ := hasB_true hok
    rw [hg]
    have := callsOf_length ps[j]
    omega

theorem nilOwn (w : World) (base : Nat) : w.ownsRow base 2 1 (.slice none 0 0) ([] : List Int).length (ints []) := ⟨by simp [ints], .inl ⟨rfl, rfl⟩⟩

theorem implCalls (ps : List (List Stm)) (i : Int) (v : Value) (w : World) (hl : ps.length ≤ maxLen) (hp : ∀ p ∈ ps, p.length ≤ maxLen) (hv : ReadsP w v ps) :
    Calls Tryz.prog 44 #[.agg #[v], .int .i64 i] w fun e w' => ∃ u, e = .returned u ∧ w'.ownsRow w.heap.size 2 1 u (callsAns ps i).length (ints (callsAns ps i)) ∧ Below w.heap.size w w' := by
  have hb0 : Below w.heap.size w (w.alloc (.cells #[v] 26)) := by go_grown
  have he := hasProc ps i v _ hl hp (readsP_below hv hb0)
  have H0 := heap_alloc_new w (.cells #[v] 26)
  have s0 : (w.alloc (.cells #[v] 26)).heap.size = w.heap.size + 1 := by simp
  unfold callsAns
  cases hok : hasB ps i
  · rw [hok] at he
    go_enter Tryz.func44, Tryz.ntmps44
    go_wp2_with (go_at_call 42; refine he.mono ?_; rintro e w2 ⟨rfl, b2⟩)
    go_ret
    exact ⟨_, rfl, nilOwn _ _, hb0.trans (b2.mono hb0.size)⟩
  · rw [hok] at he
    rw [if_pos rfl]
    obtain ⟨_, j, hj, rfl, hg, h12, hst⟩ := hasB_true hok
    rw [hg, callsOf_eq ps[j] hst]
    obtain ⟨q0, e0⟩ : ∃ q, called ps[j] 0 = q := ⟨_, rfl⟩
    obtain ⟨q1, e1⟩ : ∃ q, called ps[j] 1 = q := ⟨_, rfl⟩
    obtain ⟨q2, e2⟩ : ∃ q, called ps[j] 2 = q := ⟨_, rfl⟩
    obtain ⟨q3, e3⟩ : ∃ q, called ps[j] 3 = q := ⟨_, rfl⟩
    have hcb := calledBy ps[j]
    rw [e0, e1, e2, e3] at hcb ⊢
    clear e0 e1 e2 e3
    clear hok
    go_enter Tryz.func44, Tryz.ntmps44
    go_wp2_with fail
    go_at_call 42
    refine he.mono ?_
    rintro e w2 ⟨rfl, b2⟩
    obtain ⟨c2, f2⟩ := one_cell ((b2.block w.heap.size (by omega)).trans H0)
    have L2 := hb0.trans (b2.mono hb0.size)
    obtain ⟨ao, cap, rfl, hc⟩ := readsP_below hv L2
    obtain ⟨g, off, u, rfl, p0, r0⟩ := hc j ps[j] (by simp [hj])
    have hj' : (j : Int) < (ps.length : Int) := by omega
    have h3 := hcb u w2 h12 hst r0
    clear hcb
    have hn := fun b0 b1 b2 b3 => numbersIn [b0, b1, b2, b3]
    clear he hc hg hst hv H0
    unfold maxLen at hl
    obtain ⟨ua, un, uc, rfl⟩ := reads3_slice r0
    go_wp2_with fail
    go_at_call 72
    refine h3.mono ?_
    rintro e w3 ⟨rfl, b3⟩
    clear h3
    have L3 := L2.trans (b3.mono L2.size)
    have rd : Reads (w3.alloc (.cells #[.bool q0, .bool q1, .bool q2, .bool q3] 75)) (.slice (some ⟨w3.heap.size, 0, none⟩) 4 4) ([q0, q1, q2, q3].map .bool) := by
      refine ⟨some ⟨w3.heap.size, 0, none⟩, 4, rfl, fun k x hx => ⟨w3.heap.size, 0, rfl, ?_⟩⟩
      obtain ⟨d0, d1, d2, d3, _⟩ := four_cellsC (heap_alloc_new w3 (.cells #[.bool q0, .bool q1, .bool q2, .bool q3] 75))
      have hk : k < 4 := (List.getElem?_eq_some_iff.1 hx).1
      have : k = 0 ∨ k = 1 ∨ k = 2 ∨ k = 3 := by omega
      rcases this with rfl | rfl | rfl | rfl <;> simp at hx <;> subst hx <;> assumption
    have b4 : Below w3.heap.size w3 (w3.alloc (.cells #[.bool q0, .bool q1, .bool q2, .bool q3] 75)) := by go_grown
    go_wp2_with fail
    go_at_call 45
    refine (hn q0 q1 q2 q3 _ _ (by simp) rd).mono ?_
    rintro e w5 ⟨u5, rfl, own5, b5⟩
    go_wp2
    go_ret
    have L4 := L3.trans (b4.mono L3.size)
    exact ⟨_, rfl, own_mono own5 L4.size, L4.trans (b5.mono L4.size)⟩

end Go.Proofs.YtldagpfeaabcdaaGreatDoor
