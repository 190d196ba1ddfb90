/-
  impl.gatesOfAll.
-/
import Derived.Test.YtjlfmjoallnojacSets
import Derived.Test.YtjlfmjoallnojacImplReached
import Derived.WalkMore
import Derived.Deep.RegionHeld3
namespace Go.Proofs.Ytjlfmjoallnojac
open Go.RowKit
set_option linter.unusedVariables false
set_option linter.unusedSimpArgs false
set_option maxHeartbeats 4000000
set_option maxRecDepth 4000

theorem below_via {w w1 w2 : World} (h : Below w.heap.size w w1) (b : Below w1.heap.size w1 w2) : Below w.heap.size w w2 := h.trans (b.mono h.size)

theorem later {G : Prop} {F P : Nat → World → Prop} (h : (∀ x y, F x y → P x y) → G) (k : ∀ x y, F x y → P x y) : G := h k

/-- What stays. -/
structure GSt (v : Value) (w : World) (G : Nat) (u : Value) (A : List Int) (wr : World) : Prop where
  p : wr.heap[w.heap.size]? = some (.cells #[v] 26 (0, 0))
  r : wr.heap[w.heap.size + 1]? = some (.cells zero144 41 (0, 0))
  own : wr.ownsRow (w.heap.size + 1 + 1) 2 1 u A.length (ints A)
  bl : Below w.heap.size w wr
  lt : G < wr.heap.size
  uG : ∀ k, u.ownBlock = some k → k < G
  sG : w.heap.size + 1 + 1 ≤ G

theorem GSt.grow {v : Value} {w : World} {G : Nat} {u : Value} {A : List Int} {wr wr' : World} {row : Option Nat} (h : GSt v w G u A wr) (hg : wr.grownBy wr' row) (hr : ∀ k, row = some k → G ≤ k) : GSt v w G u A wr' where
  p := (hg.block _ (set_lt h.p) (fun e => by have := hr _ e.symm; have := h.sG; omega)).trans h.p
  r := (hg.block _ (set_lt h.r) (fun e => by have := hr _ e.symm; have := h.sG; omega)).trans h.r
  own := own_grown h.own hg (fun k hk e => by have := hr _ e; have := h.uG k hk; omega)
  bl := h.bl.grown hg h.bl.size (fun k e => by have := hr k e; have := h.sG; omega)
  lt := Nat.lt_of_lt_of_le h.lt hg.size
  uG := h.uG
  sG := h.sG

theorem GSt.below {v : Value} {w : World} {G : Nat} {u : Value} {A : List Int} {wr wr' : World} (h : GSt v w G u A wr) (hb : Below wr.heap.size wr wr') : GSt v w G u A wr' := h.grow (grown_of_below hb none) (by simp)

theorem TabAt.below {w w' : World} {G : Nat} {gs : List (List Bool)} (h : TabAt w G gs) (hb : Below w.heap.size w w') : TabAt w' G gs := h.kept (hb.block G h.lt)

theorem gatesOfAll (ss : List Stm) (A : List Int) (hA : IsReached ss (-1) A) (hp : procOk ss = true) (v : Value) (w : World) (hl : ss.length ≤ maxLen) (hv : Reads3 w v ss) :
    Calls Try.prog 17 #[.agg #[v]] w fun e w' => ∃ gs : List (List Bool), e = .returned (tabV gs) ∧ gs.length = 12 ∧ (∀ b ∈ gs, b.length = 12) ∧ (∀ i d, dm gs i d = true ↔ Dom ss d i) ∧ Below w.heap.size w w' := by
  obtain ⟨hpos, h12, _⟩ := procOk_parts hp
  have hz := zeroSets.1
  have hAl : A.length ≤ 12 := by
    refine Nat.le_trans (sorted_length A 0 ss.length hA.1 (fun x hx => ?_)) h12
    obtain ⟨i, rfl, hi⟩ := (hA.2 x).1 hx
    have := hi.lt hp
    omega
  have b0 : Below w.heap.size w ((w.alloc (.cells #[v] 26)).alloc (.cells zero144 41)) := by go_grown
  have hre := implReached ss A (fun _ => hA) (fun h => by rw [hp] at h; cases h) v _ hl (reads3_below hv b0)
  have P0 : ((w.alloc (.cells #[v] 26)).alloc (.cells zero144 41)).heap[w.heap.size]? = some (.cells #[v] 26 (0, 0)) := by rw [old_block (by simp)]; exact heap_alloc_new w _
  have R0 : ((w.alloc (.cells #[v] 26)).alloc (.cells zero144 41)).heap[w.heap.size + 1]? = some (.cells zero144 41 (0, 0)) := by
    have := heap_alloc_new (w.alloc (.cells #[v] 26)) (.cells zero144 41)
    simpa using this
  have s0 : ((w.alloc (.cells #[v] 26)).alloc (.cells zero144 41)).heap.size = w.heap.size + 1 + 1 := by simp
  go_enter Try.func17, Try.ntmps17
  go_wp2_with fail
  go_step3
  go_wp2_with fail
  go_at_call 13
  refine hre.mono ?_
  rintro e w1 ⟨u, rfl, own1, b1⟩
  clear hre
  have s1 := b1.size
  have P1 := (b1.block w.heap.size (by omega)).trans P0
  have R1 := (b1.block (w.heap.size + 1) (by omega)).trans R0
  have L1 := b0.trans (b1.mono b0.size)
  clear b0 P0 R0 b1
  have T1 : (w1.alloc (.cells zero144 41)).heap[w1.heap.size]? = some (.cells zero144 41 (0, 0)) := heap_alloc_new w1 _
  obtain ⟨w2, hw2⟩ : ∃ w2, w1.alloc (.cells zero144 41) = w2 := ⟨_, rfl⟩
  obtain ⟨G, hG⟩ : ∃ G, w1.heap.size = G := ⟨_, rfl⟩
  have P2 : w2.heap[w.heap.size]? = some (.cells #[v] 26 (0, 0)) := by rw [← hw2, old_block (by omega)]; exact P1
  have R2 : w2.heap[w.heap.size + 1]? = some (.cells zero144 41 (0, 0)) := by rw [← hw2, old_block (by omega)]; exact R1
  have own2 : w2.ownsRow (w.heap.size + 1 + 1) 2 1 u A.length (ints A) := by rw [← hw2]; rw [s0] at own1; exact own1.alloc _
  rw [hw2, hG] at T1
  have L2 : Below w.heap.size w w2 := by rw [← hw2]; exact L1.alloc L1.size _
  have s2 : w2.heap.size = G + 1 := by rw [← hw2, ← hG]; simp
  have sG : w.heap.size + 1 + 1 ≤ G := by omega
  have uG : ∀ k, u.ownBlock = some k → k < G := fun k hk => by have := (own1.lt k hk).2; omega
  clear own1 P1 R1 L1
  have S2 : GSt v w G u A w2 := ⟨P2, R2, own2, L2, by omega, uG, sG⟩
  have Z2 : TabAt w2 G (List.replicate 12 (List.replicate 12 false)) := tab_zero T1
  clear P2 R2 T1 L2
  obtain ⟨ao, cap, rfl, hcu⟩ := reads_own own2
  clear own2 hcu uG
  rw [ints_length]
  rw [ints_length] at S2
  obtain ⟨u, hu⟩ : ∃ u, u = Value.slice ao A.length cap := ⟨_, rfl⟩
  rw [← hu] at S2
  go_wp2_with fail
  go_loopw [6, 16] (fun _ i wr => ∃ (k : Nat) (gs : List (List Bool)), k ≤ A.length ∧ i = .int .i64 k ∧ GSt v w G u A wr ∧ TabAt wr G gs ∧
      (∀ i : Nat, (i : Int) ∈ A.take k → ∀ d, d < 12 → dm gs i d = true) ∧ (∀ i : Nat, (i : Int) ∉ A.take k → ∀ d, dm gs i d = false)) (fun _ i _ => A.length - (intOf i).toNat)
  case atStart => exact ⟨0, _, Nat.zero_le _, rfl, S2, Z2, fun i hi => by simp at hi, fun i _ d => dm_zero i d⟩
  case round =>
    obtain ⟨k, gs, hk, rfl, hS, hT, h1, h2⟩ := hrel
    clear S2 Z2 s2 hw2
    by_cases hlt : k < A.length
    · have hlt' : (k : Int) < (A.length : Int) := by omega
      have hmem : A[k] ∈ A := List.getElem_mem hlt
      obtain ⟨i, hi, hir⟩ := (hA.2 _).1 hmem
      have hil := hir.lt hp
      obtain ⟨ao', cap', e', hc'⟩ := reads_own hS.own
      rw [hu] at e'
      obtain ⟨rfl, -, rfl⟩ : ao = ao' ∧ A.length = (ints A).length ∧ cap = cap' := by simpa using e'
      obtain ⟨g, off, rfl, c0⟩ := hc' k (.int .i64 (i : Int)) (by simp [ints, hlt, hi])
      have HS : Hid (GSt v w G u A wr) := hS
      have HT : Hid (TabAt wr G gs) := hT
      have hi' : (i : Int) < 12 := by omega
      have hi0 : (0 : Int) ≤ (i : Int) := by omega
      have HI : Hid (A[k] = (i : Int)) := hi
      clear hc' hS hT e' hi hmem
      go_wp2_with fail
      go_at_call 31
      refine (everyS wr).mono ?_
      rintro e w3 ⟨rfl, b3⟩
      have S3 := HS.out.below b3
      have T3 := HT.out.below b3
      have H3 : Hid (GSt v w G u A w3) := S3
      have HT3 : Hid (TabAt w3 G gs) := T3
      clear S3 T3
      go_wp2_with (refine wpList_storeSet rfl rfl (.tmp 22) (.tmp 21) rfl G (i * 12) allT rfl rfl allT_length ?_ ?_)
      · exact HT3.out.thereAt i (by omega)
      have S4 := H3.out.grow (grown_setCells G (bls allT) (i * 12) w3) (fun k e => by cases e; exact Nat.le_refl _)
      have T4 := HT3.out.store i (by omega) allT allT_length
      generalize w3.setCells G (i * 12) (bls allT) = w4 at *
      have H4 : Hid (GSt v w G u A w4) := S4
      have HT4 : Hid (TabAt w4 G (gs.set i allT)) := T4
      clear S4 T4
      go_wp2
      go_roundw
      case rel =>
        have hgl : i < gs.length := by rw [HT.out.len]; omega
        refine ⟨k + 1, gs.set i allT, by omega, by go_num, H4.out, HT4.out, fun i' hi' d hd => ?_, fun i' hi' d => ?_⟩
        · rw [dm_set hgl]
          split
          · exact allT_at d hd
          · rename_i hne
            refine h1 i' ?_ d hd
            rw [List.take_succ_eq_append_getElem hlt, HI.out] at hi'
            rcases List.mem_append.1 hi' with h | h
            · exact h
            · simp at h; omega
        · rw [List.take_succ_eq_append_getElem hlt, HI.out] at hi'
          rw [dm_set hgl, if_neg (fun e => hi' (by simp [e]))]
          exact h2 i' (fun h => hi' (by simp [h])) d
      case measure => simp [intOf]; omega
    · have hkk : k = A.length := by omega
      subst hkk
      rw [List.take_length] at h1 h2
      have hw0 := setWith (List.replicate 12 false) 0 wr (by omega) (by simp)
      have HS : Hid (GSt v w G u A wr) := hS
      have HT : Hid (TabAt wr G gs) := hT
      have F1 : Hid (∀ i : Nat, (i : Int) ∈ A → ∀ d, d < 12 → dm gs i d = true) := h1
      have F2 : Hid (∀ i : Nat, (i : Int) ∉ A → ∀ d, dm gs i d = false) := h2
      clear hS hT h1 h2
      go_wp2_with fail
      go_at_call 19
      refine (show Calls Try.prog 19 _ wr _ from hw0).mono ?_
      rintro e w3 ⟨rfl, b3⟩
      clear hw0
      have H3 : Hid (GSt v w G u A w3) := HS.out.below b3
      have HT3 : Hid (TabAt w3 G gs) := HT.out.below b3
      obtain ⟨r0, hr0⟩ : ∃ r0, (List.replicate 12 false).set 0 true = r0 := ⟨_, rfl⟩
      have hr1 : r0.length = 12 := by rw [← hr0]; simp
      have hr2 : Hid (∀ d, r0.getD d false = true ↔ d = 0) := by
        show ∀ d, r0.getD d false = true ↔ d = 0
        intro d
        rw [← hr0]
        by_cases h : d < 12
        · have : d = 0 ∨ d = 1 ∨ d = 2 ∨ d = 3 ∨ d = 4 ∨ d = 5 ∨ d = 6 ∨ d = 7 ∨ d = 8 ∨ d = 9 ∨ d = 10 ∨ d = 11 := by omega
          rcases this with rfl | rfl | rfl | rfl | rfl | rfl | rfl | rfl | rfl | rfl | rfl | rfl <;> simp
        · rw [List.getD_eq_getElem?_getD, List.getElem?_eq_none (by simp; omega)]
          simp; omega
      rw [hr0]
      clear hr0 HS HT b3
      go_wp2_with (refine wpList_storeSet rfl rfl (.tmp 26) (.tmp 25) rfl G (0 * 12) r0 rfl rfl hr1 ?_ ?_)
      · exact HT3.out.thereAt 0 (by omega)
      have S4 := H3.out.grow (grown_setCells G (bls r0) (0 * 12) w3) (fun k e => by cases e; exact Nat.le_refl _)
      have T4 := HT3.out.store 0 (by omega) r0 hr1
      have hgl : 0 < gs.length := by have := HT3.out.len; omega
      have I4 : GInv ss (gs.set 0 r0) := by
        refine GInv.start hp T4.len T4.row (fun i d hi => ?_) (fun i d hd hi h0 => ?_) (fun d => ?_)
        · rw [dm_set hgl, if_neg (fun e => hi (by rw [e]; exact Rch.zero))]
          exact F2.out i (fun h => hi (by obtain ⟨i', e, h⟩ := (hA.2 _).1 h; obtain rfl : i = i' := (by omega); exact h)) d
        · rw [dm_set hgl, if_neg h0]
          exact F1.out i ((hA.2 _).2 ⟨i, rfl, hi⟩) d hd
        · rw [dm_set hgl, if_pos rfl]
          exact hr2.out d
      generalize w3.setCells G (0 * 12) (bls r0) = w4 at *
      clear H3 HT3 F1 F2
      generalize gs.set 0 r0 = gs1 at *
      clear hr2 hr1 hgl
      go_wp2_with fail
      go_step3
      go_wp2_with fail
      go_loopw [29] (fun _ wr => ∃ gs : List (List Bool), GSt v w G u A wr ∧ TabAt wr G gs ∧ GInv ss gs) (fun _ wr => tw wr G)
      case atStart => exact ⟨_, S4, T4, I4⟩
      case round =>
        obtain ⟨gs2, hS, hT, hI⟩ := hrel
        clear S4 T4 I4
        obtain ⟨wa, hwa⟩ : ∃ x, x = wr := ⟨_, rfl⟩
        subst hwa
        have HM : Hid (tw wa G = cnt gs2) := hT.tw
        go_wp2_with fail
        go_loopw [8, 29] (fun _ i wr => ∃ (k : Nat), k ≤ A.length ∧ i = .int .i64 k ∧ GSt v w G u A wr ∧ TabAt wr G gs2 ∧ (∀ m, m < k → ∀ j : Nat, A[m]? = some (j : Int) → ∀ y ∈ nx ss j, ClosedAt gs2 j y)) (fun _ i _ => A.length - (intOf i).toNat)
        case atStart => exact ⟨0, Nat.zero_le _, rfl, hS, hT, fun m hm => by omega⟩
        case round =>
          obtain ⟨k, hk, rfl, hS, hT, hC⟩ := hrel
          obtain ⟨wb, hwb⟩ : ∃ x, x = wr := ⟨_, rfl⟩
          subst hwb
          by_cases hlt : k < A.length
          · have hlt' : (k : Int) < (A.length : Int) := by omega
            have hmem : A[k] ∈ A := List.getElem_mem hlt
            obtain ⟨j, hj, hjr⟩ := (hA.2 _).1 hmem
            have hjl := hjr.lt hp
            obtain ⟨ao', cap', e', hc'⟩ := reads_own hS.own
            rw [hu] at e'
            obtain ⟨rfl, -, rfl⟩ : ao = ao' ∧ A.length = (ints A).length ∧ cap = cap' := by simpa using e'
            obtain ⟨g, off, rfl, c0⟩ := hc' k (.int .i64 (j : Int)) (by simp [ints, hlt, hj])
            obtain ⟨p0, pf0⟩ := one_cell hS.p
            have hn := nextsOf ss j v wb hjl h12 (reads3_below hv hS.bl)
            have HNX : Hid (nextsS ss[j] j = nx ss j) := (nx_eq hjl).symm
            rw [HNX.out] at hn
            have HS : Hid (GSt v w G u A wb) := hS
            have HT : Hid (TabAt wb G gs2) := hT
            have HJ : Hid (A[k] = (j : Int)) := hj
            have HC : Hid (∀ m, m < k → ∀ j : Nat, A[m]? = some (j : Int) → ∀ y ∈ nx ss j, ClosedAt gs2 j y) := hC
            have hj12 : (j : Int) < 12 := by omega
            have hj0 : (0 : Int) ≤ (j : Int) := by omega
            have hnl : (nx ss j).length ≤ 2 := by unfold nx; exact nextsS_length _ _
            clear hc' hS hT e' hj hmem hC
            go_wp2_with fail
            go_at_call 32
            refine hn.mono ?_
            rintro e w3 ⟨u3, rfl, own3, b3⟩
            clear hn
            have S3 : GSt v w G u A w3 := HS.out.below b3
            have T3 : TabAt w3 G gs2 := HT.out.below b3
            have sb : G < wb.heap.size := HS.out.lt
            obtain ⟨ao3, cap3, rfl, -⟩ := reads_own own3
            rw [ints_length] at own3 ⊢
            have own3' := own_mono own3 (show G + 1 ≤ wb.heap.size by omega)
            obtain ⟨u3, hu3⟩ : ∃ u3, u3 = Value.slice ao3 (nx ss j).length cap3 := ⟨_, rfl⟩
            rw [← hu3] at own3'
            clear own3
            go_wp2_with fail
            go_loopw [10, 37] (fun _ i wr => ∃ (n : Nat), n ≤ (nx ss j).length ∧ i = .int .i64 n ∧ GSt v w G u A wr ∧ TabAt wr G gs2 ∧ wr.ownsRow (G + 1) 2 1 u3 (nx ss j).length (ints (nx ss j)) ∧ (∀ m, m < n → ∀ y, (nx ss j)[m]? = some y → ClosedAt gs2 j y)) (fun _ i _ => (nx ss j).length - (intOf i).toNat)
            case atStart => exact ⟨0, Nat.zero_le _, rfl, S3, T3, own3', fun m hm => by omega⟩
            case round =>
              obtain ⟨n, hn, rfl, hS, hT, hO, hD⟩ := hrel
              obtain ⟨wc, hwc⟩ : ∃ x, x = wr := ⟨_, rfl⟩
              subst hwc
              clear S3 T3 own3' b3 c0 p0 pf0 sb
              by_cases hlt2 : n < (nx ss j).length
              · have hlt2' : (n : Int) < ((nx ss j).length : Int) := by omega
                obtain ⟨i, hi, hil⟩ := nx_in hp hjl _ (List.getElem_mem hlt2)
                obtain ⟨ao', cap', e', hc'⟩ := reads_own hO
                rw [hu3] at e'
                obtain ⟨rfl, -, rfl⟩ : ao3 = ao' ∧ (nx ss j).length = (ints (nx ss j)).length ∧ cap3 = cap' := by simpa using e'
                obtain ⟨g3, off3, rfl, c3⟩ := hc' n (.int .i64 (i : Int)) (by simp [ints, hlt2, hi])
                have him : (i : Int) ∈ nx ss j := hi ▸ List.getElem_mem hlt2
                have HIM : Hid ((i : Int) ∈ nx ss j) := him
                have HI : Hid ((nx ss j)[n] = (i : Int)) := hi
                have HS2 : Hid (GSt v w G u A wc) := hS
                have HT2 : Hid (TabAt wc G gs2) := hT
                have HO2 : Hid (wc.ownsRow (G + 1) 2 1 u3 (nx ss j).length (ints (nx ss j))) := hO
                have HD : Hid (∀ m, m < n → ∀ y, (nx ss j)[m]? = some y → ClosedAt gs2 j y) := hD
                have hi12 : (i : Int) < 12 := by omega
                have hi0 : (0 : Int) ≤ (i : Int) := by omega
                have ri := hI.rowLen (i := i) (by omega)
                have rj := hI.rowLen (i := j) (by omega)
                obtain ⟨-, qi⟩ := hT.rows i (by omega)
                obtain ⟨-, qj⟩ := hT.rows j (by omega)
                have hcom : ∀ w', _ := fun w' => setCommon (gs2.getD i []) (gs2.getD j []) w' ri rj
                have hcl : (List.zipWith (· && ·) (gs2.getD i []) (gs2.getD j [])).length = 12 := by rw [List.length_zipWith, ri, rj]; rfl
                have hwi : ∀ w', _ := fun w' => setWith (List.zipWith (· && ·) (gs2.getD i []) (gs2.getD j [])) i w' (by omega) hcl
                have hfe : (List.zipWith (· && ·) (gs2.getD i []) (gs2.getD j [])).set i true = fewer gs2 j i := rfl
                rw [hfe] at hwi
                have hfl : (fewer gs2 j i).length = 12 := fewer_length hI (by omega) (by omega)
                clear hfe hc' hS hO e' hi him hD
                have HCL : Hid (fewer gs2 j i = gs2.getD i [] → ClosedAt gs2 j i) := fun h => closedAt_of_same hI (by omega) (by omega) h
                have HST : Hid (fewer gs2 j i ≠ gs2.getD i [] → GInv ss (gs2.set i (fewer gs2 j i)) ∧ cnt (gs2.set i (fewer gs2 j i)) < cnt gs2) := fun h => ⟨hI.step hp hjr HIM.out, cnt_fewer hp hI hjr HIM.out h⟩
                unfold setV at hcom hwi
                generalize List.zipWith (· && ·) (gs2.getD i []) (gs2.getD j []) = cm at *
                obtain ⟨Ri, hRi⟩ : ∃ R, gs2.getD i [] = R := ⟨_, rfl⟩
                obtain ⟨Rj, hRj⟩ : ∃ R, gs2.getD j [] = R := ⟨_, rfl⟩
                obtain ⟨F, hF⟩ : ∃ F, fewer gs2 j i = F := ⟨_, rfl⟩
                have rngi : ∀ w' : World, TabAt w' G gs2 → w'.rangeAt G (i * 12) (bls (gs2.getD i [])) := fun w' h => (h.rows i (by omega)).2
                have rngj : ∀ w' : World, TabAt w' G gs2 → w'.rangeAt G (j * 12) (bls (gs2.getD j [])) := fun w' h => (h.rows j (by omega)).2
                rw [hRi] at ri qi hcom HCL HST rngi
                rw [hRj] at rj qj hcom rngj
                rw [hF] at hfl hwi HCL HST
                clear hRi hRj hF
                have hund := setUnd
                have zi := setSize Ri ri
                have zj := setSize Rj rj
                have zF := setSize F hfl
                have zl : (bls F).length = 12 := by rw [List.length_map, hfl]
                have zo := setOne F
                go_wp2_with fail
                refine wp_region_held_drew (S := fun w' => w'.rangeAt G (i * 12) (bls Ri) ∧ w'.rangeAt G (j * 12) (bls Rj)) (by kernel_rfl) ⟨qi, qj⟩ (fun hHeld => ?_)
                refine wpAnyH_take (i := 0) (oi := _) (v := .int .i64 (i : Int)) rfl (by kernel_rfl) (by kernel_rfl) (by kernel_rfl) (fun _ _ _ h => h) (Or.inl ⟨by rfl, fun w hSw => by go_simp⟩) hHeld ?_
                simp only [Act.put, List.setIfInBounds_toArray, List.set_cons_zero, List.set_cons_succ]
                refine wpAnyH_take (i := 1) (oi := _) (v := .pointer (some ⟨G, i * 12, none⟩)) rfl (by kernel_rfl) (by kernel_rfl) (by kernel_rfl) (fun _ _ _ h => h) (Or.inl ⟨by rfl, fun w hSw => by go_simp⟩) hHeld ?_
                simp only [Act.put, List.setIfInBounds_toArray, List.set_cons_zero, List.set_cons_succ]
                refine wpAnyH_take (i := 2) (oi := _) (v := _) rfl (by kernel_rfl) (by kernel_rfl) (by kernel_rfl) (fun _ _ _ h => h) (yieldsIf_load_mid (by rfl) _ _ rfl _ _ rfl (bls Ri) _ (fun w h => h.1) setUnd rfl zi) hHeld ?_
                simp only [Act.put, List.setIfInBounds_toArray, List.set_cons_zero, List.set_cons_succ]
                refine wpAnyH_take (i := 3) (oi := _) (v := .int .i64 (j : Int)) rfl (by kernel_rfl) (by kernel_rfl) (by kernel_rfl) (fun _ _ _ h => h) (Or.inl ⟨by rfl, fun w hSw => by go_simp⟩) hHeld ?_
                simp only [Act.put, List.setIfInBounds_toArray, List.set_cons_zero, List.set_cons_succ]
                refine wpAnyH_take (i := 4) (oi := _) (v := .pointer (some ⟨G, j * 12, none⟩)) rfl (by kernel_rfl) (by kernel_rfl) (by kernel_rfl) (fun _ _ _ h => h) (Or.inl ⟨by rfl, fun w hSw => by go_simp⟩) hHeld ?_
                simp only [Act.put, List.setIfInBounds_toArray, List.set_cons_zero, List.set_cons_succ]
                refine wpAnyH_take (i := 5) (oi := _) (v := _) rfl (by kernel_rfl) (by kernel_rfl) (by kernel_rfl) (fun _ _ _ h => h) (yieldsIf_load_mid (by rfl) _ _ rfl _ _ rfl (bls Rj) _ (fun w h => h.2) setUnd rfl zj) hHeld ?_
                simp only [Act.put, List.setIfInBounds_toArray, List.set_cons_zero, List.set_cons_succ]
                refine wpAnyH_take (i := 7) (oi := _) (v := .int .i64 (i : Int)) rfl (by kernel_rfl) (by kernel_rfl) (by kernel_rfl) (fun _ _ _ h => h) (Or.inl ⟨by rfl, fun w hSw => by go_simp⟩) hHeld ?_
                simp only [Act.put, List.setIfInBounds_toArray, List.set_cons_zero, List.set_cons_succ]
                refine later (F := fun X wf => wf.rangeAt X 0 (bls F) ∧ Below wc.heap.size wc wf) (P := ?PLeaf) (fun hk => ?_) ?_
                case refine_1 =>
                  refine wpAnyH_ready (rs := [6, 9]) (by kernel_rfl) (by simp) ?_
                  refine AllReadyH.cons (o := _) rfl (fun K hK => ?_) (AllReadyH.cons (o := _) rfl (fun K hK => ?_) AllReadyH.nil)
                  · skip
                    go_simp
                    go_at_call 33
                    refine (hcom _).mono ?_
                    rintro e w4 ⟨rfl, b4⟩
                    have T4 : TabAt w4 G gs2 := hT.below (below_via (by go_grown) b4)
                    have M4 : Below wc.heap.size wc w4 := below_via (by go_grown) b4
                    go_wp2_with fail
                    refine hK.out _ _ ⟨rngi w4 T4, rngj w4 T4⟩ (fun hHeld => ?_)
                    clear hK K
                    try simp only [Act.put, List.setIfInBounds_toArray, List.set_cons_zero, List.set_cons_succ]
                    refine wpAnyH_ready (rs := [8, 9]) (by kernel_rfl) (by simp) ?_
                    refine AllReadyH.cons (o := _) rfl (fun K hK => ?_) (AllReadyH.cons (o := _) rfl (fun K hK => ?_) AllReadyH.nil)
                    · skip
                      go_simp
                      go_at_call 19
                      refine (hwi _).mono ?_
                      rintro e w5 ⟨rfl, b5⟩
                      have T5 : TabAt w5 G gs2 := T4.below (below_via (by go_grown) b5)
                      have M5 : Below wc.heap.size wc w5 := below_via M4 (below_via (by go_grown) b5)
                      go_wp2_with fail
                      refine hK.out _ _ ⟨rngi w5 T5, rngj w5 T5⟩ (fun hHeld => ?_)
                      clear hK K
                      try simp only [Act.put, List.setIfInBounds_toArray, List.set_cons_zero, List.set_cons_succ]
                      refine wpAnyH_ready (rs := [9]) (by kernel_rfl) (by simp) ?_
                      refine AllReadyH.cons (o := _) rfl (fun K hK => ?_) AllReadyH.nil
                      go_simp
                      refine hK.out _ _ ⟨rngi _ (T5.below (by go_grown)), rngj _ (T5.below (by go_grown))⟩ (fun hHeld => ?_)
                      clear hK K
                      try simp only [Act.put, List.setIfInBounds_toArray, List.set_cons_zero, List.set_cons_succ]
                      refine wpAnyH_ready (rs := [10]) (by kernel_rfl) (by simp) ?_
                      refine AllReadyH.cons (o := _) rfl (fun K hK => ?_) AllReadyH.nil
                      have th := there_c w5
                      have FX : ((w5.alloc (.cells #[.bool false, .bool false, .bool false, .bool false, .bool false, .bool false, .bool false, .bool false, .bool false, .bool false, .bool false, .bool false] 40)).setCells w5.heap.size 0 (bls F)).rangeAt w5.heap.size 0 (bls F) ∧ Below wc.heap.size wc ((w5.alloc (.cells #[.bool false, .bool false, .bool false, .bool false, .bool false, .bool false, .bool false, .bool false, .bool false, .bool false, .bool false, .bool false] 40)).setCells w5.heap.size 0 (bls F)) := ⟨World.rangeAt_setCells_same _ _ _ _ (by rw [zl]; exact th), Below.grown (M5.trans (Below.mono (by go_grown) M5.size)) (grown_setCells _ _ _ _) (by have := M4.size; have := M5.size; (try simp); omega) (fun k e => by cases e; have := M4.size; have := M5.size; omega)⟩
                      refine step_storeSet rfl rfl (.tmp 11) (.tmp 49) rfl _ _ F rfl rfl hfl th ?_
                      refine hK.out _ _ ⟨rngi _ (TabAt.far (T5.below (by go_grown)) (by have := hT.lt; have := T4.lt; have := T5.lt; omega) _ _), rngj _ (TabAt.far (T5.below (by go_grown)) (by have := hT.lt; have := T4.lt; have := T5.lt; omega) _ _)⟩ (fun hHeld => ?_)
                      clear hK K
                      refine wpAnyH_done (by kernel_rfl) ?_ _
                      generalize (w5.alloc (.cells #[.bool false, .bool false, .bool false, .bool false, .bool false, .bool false, .bool false, .bool false, .bool false, .bool false, .bool false, .bool false] 40)).setCells w5.heap.size 0 (bls F) = wf at FX ⊢
                      obtain ⟨F1, F2⟩ := FX
                      generalize w5.heap.size = X at F1 ⊢
                      exact hk X wf ⟨F1, F2⟩
                    · skip
                      go_simp
                      refine hK.out _ _ ⟨rngi _ (T4.below (by go_grown)), rngj _ (T4.below (by go_grown))⟩ (fun hHeld => ?_)
                      clear hK K
                      try simp only [Act.put, List.setIfInBounds_toArray, List.set_cons_zero, List.set_cons_succ]
                      refine wpAnyH_ready (rs := [8]) (by kernel_rfl) (by simp) ?_
                      refine AllReadyH.cons (o := _) rfl (fun K hK => ?_) AllReadyH.nil
                      go_simp
                      go_at_call 19
                      refine (hwi _).mono ?_
                      rintro e w5 ⟨rfl, b5⟩
                      have T5 : TabAt w5 G gs2 := T4.below (below_via (by go_grown) b5)
                      have M5 : Below wc.heap.size wc w5 := below_via M4 (below_via (by go_grown) b5)
                      go_wp2_with fail
                      refine hK.out _ _ ⟨rngi w5 T5, rngj w5 T5⟩ (fun hHeld => ?_)
                      clear hK K
                      try simp only [Act.put, List.setIfInBounds_toArray, List.set_cons_zero, List.set_cons_succ]
                      refine wpAnyH_ready (rs := [10]) (by kernel_rfl) (by simp) ?_
                      refine AllReadyH.cons (o := _) rfl (fun K hK => ?_) AllReadyH.nil
                      have th := there_b b5
                      have FX : (w5.setCells w4.heap.size 0 (bls F)).rangeAt w4.heap.size 0 (bls F) ∧ Below wc.heap.size wc (w5.setCells w4.heap.size 0 (bls F)) := ⟨World.rangeAt_setCells_same _ _ _ _ (by rw [zl]; exact th), Below.grown M5 (grown_setCells _ _ _ _) (by have := M4.size; have := M5.size; (try simp); omega) (fun k e => by cases e; have := M4.size; have := M5.size; omega)⟩
                      refine step_storeSet rfl rfl (.tmp 11) (.tmp 49) rfl _ _ F rfl rfl hfl th ?_
                      refine hK.out _ _ ⟨rngi _ (TabAt.far (T5.below (by go_grown)) (by have := hT.lt; have := T4.lt; have := T5.lt; omega) _ _), rngj _ (TabAt.far (T5.below (by go_grown)) (by have := hT.lt; have := T4.lt; have := T5.lt; omega) _ _)⟩ (fun hHeld => ?_)
                      clear hK K
                      refine wpAnyH_done (by kernel_rfl) ?_ _
                      generalize w5.setCells w4.heap.size 0 (bls F) = wf at FX ⊢
                      obtain ⟨F1, F2⟩ := FX
                      generalize w4.heap.size = X at F1 ⊢
                      exact hk X wf ⟨F1, F2⟩
                  · skip
                    go_simp
                    refine hK.out _ _ ⟨rngi _ (hT.below (by go_grown)), rngj _ (hT.below (by go_grown))⟩ (fun hHeld => ?_)
                    clear hK K
                    try simp only [Act.put, List.setIfInBounds_toArray, List.set_cons_zero, List.set_cons_succ]
                    refine wpAnyH_ready (rs := [6]) (by kernel_rfl) (by simp) ?_
                    refine AllReadyH.cons (o := _) rfl (fun K hK => ?_) AllReadyH.nil
                    go_simp
                    go_at_call 33
                    refine (hcom _).mono ?_
                    rintro e w4 ⟨rfl, b4⟩
                    have T4 : TabAt w4 G gs2 := hT.below (below_via (by go_grown) b4)
                    have M4 : Below wc.heap.size wc w4 := below_via (by go_grown) b4
                    go_wp2_with fail
                    refine hK.out _ _ ⟨rngi w4 T4, rngj w4 T4⟩ (fun hHeld => ?_)
                    clear hK K
                    try simp only [Act.put, List.setIfInBounds_toArray, List.set_cons_zero, List.set_cons_succ]
                    refine wpAnyH_ready (rs := [8]) (by kernel_rfl) (by simp) ?_
                    refine AllReadyH.cons (o := _) rfl (fun K hK => ?_) AllReadyH.nil
                    go_simp
                    go_at_call 19
                    refine (hwi _).mono ?_
                    rintro e w5 ⟨rfl, b5⟩
                    have T5 : TabAt w5 G gs2 := T4.below (below_via (by go_grown) b5)
                    have M5 : Below wc.heap.size wc w5 := below_via M4 (below_via (by go_grown) b5)
                    go_wp2_with fail
                    refine hK.out _ _ ⟨rngi w5 T5, rngj w5 T5⟩ (fun hHeld => ?_)
                    clear hK K
                    try simp only [Act.put, List.setIfInBounds_toArray, List.set_cons_zero, List.set_cons_succ]
                    refine wpAnyH_ready (rs := [10]) (by kernel_rfl) (by simp) ?_
                    refine AllReadyH.cons (o := _) rfl (fun K hK => ?_) AllReadyH.nil
                    have th := there_a (w := wc.drew) (X := wc.heap.size) rfl b4 b5
                    have FX : (w5.setCells wc.heap.size 0 (bls F)).rangeAt wc.heap.size 0 (bls F) ∧ Below wc.heap.size wc (w5.setCells wc.heap.size 0 (bls F)) := ⟨World.rangeAt_setCells_same _ _ _ _ (by rw [zl]; exact th), Below.grown M5 (grown_setCells _ _ _ _) (by have := M4.size; have := M5.size; (try simp); omega) (fun k e => by cases e; have := M4.size; have := M5.size; omega)⟩
                    refine step_storeSet rfl rfl (.tmp 11) (.tmp 49) rfl _ _ F rfl rfl hfl th ?_
                    refine hK.out _ _ ⟨rngi _ (TabAt.far (T5.below (by go_grown)) (by have := hT.lt; have := T4.lt; have := T5.lt; omega) _ _), rngj _ (TabAt.far (T5.below (by go_grown)) (by have := hT.lt; have := T4.lt; have := T5.lt; omega) _ _)⟩ (fun hHeld => ?_)
                    clear hK K
                    refine wpAnyH_done (by kernel_rfl) ?_ _
                    generalize w5.setCells wc.heap.size 0 (bls F) = wf at FX ⊢
                    obtain ⟨F1, F2⟩ := FX
                    generalize wc.heap.size = X at F1 ⊢
                    exact hk X wf ⟨F1, F2⟩
                rintro X wf ⟨qX, MF⟩
                have TF := hT.below MF
                have SF := HS2.out.below MF
                have OF := own_kept HO2.out MF
                have hXF : Hid (GSt v w G u A wf) := SF
                have hTF : Hid (TabAt wf G gs2) := TF
                have hOF : Hid (wf.ownsRow (G + 1) 2 1 u3 (nx ss j).length (ints (nx ss j))) := OF
                have qXi := rngi wf TF
                have heq : ∀ w, (Op.equalIn 10000 40 (.agg (bls F).toArray) (.agg (bls Ri).toArray)).run Try.prog w = .ok (decide (F = Ri)) w := fun w => run_equalSets w F Ri hfl ri
                clear hcom hwi SF TF OF
                go_wp2_with fail
                refine wp_region_held_drew (S := fun w' => w'.rangeAt X 0 (bls F) ∧ w'.rangeAt G (i * 12) (bls Ri)) (by kernel_rfl) ⟨qX, qXi⟩ (fun hHeld => ?_)
                refine wpAnyH_take (i := 0) (oi := _) (v := _) rfl (by kernel_rfl) (by kernel_rfl) (by kernel_rfl) (fun _ _ _ h => h) (yieldsIf_load_mid (by rfl) _ _ rfl _ _ rfl (bls F) _ (fun w h => h.1) setUnd rfl zF) hHeld ?_
                try simp only [Act.put, List.setIfInBounds_toArray, List.set_cons_zero, List.set_cons_succ]
                refine wpAnyH_take (i := 1) (oi := _) (v := .int .i64 (i : Int)) rfl (by kernel_rfl) (by kernel_rfl) (by kernel_rfl) (fun _ _ _ h => h) (Or.inl ⟨by rfl, fun w hSw => by go_simp⟩) hHeld ?_
                try simp only [Act.put, List.setIfInBounds_toArray, List.set_cons_zero, List.set_cons_succ]
                refine wpAnyH_take (i := 2) (oi := _) (v := .pointer (some ⟨G, i * 12, none⟩)) rfl (by kernel_rfl) (by kernel_rfl) (by kernel_rfl) (fun _ _ _ h => h) (Or.inl ⟨by rfl, fun w hSw => by go_simp⟩) hHeld ?_
                try simp only [Act.put, List.setIfInBounds_toArray, List.set_cons_zero, List.set_cons_succ]
                refine wpAnyH_take (i := 3) (oi := _) (v := _) rfl (by kernel_rfl) (by kernel_rfl) (by kernel_rfl) (fun _ _ _ h => h) (yieldsIf_load_mid (by rfl) _ _ rfl _ _ rfl (bls Ri) _ (fun w h => h.2) setUnd rfl zi) hHeld ?_
                try simp only [Act.put, List.setIfInBounds_toArray, List.set_cons_zero, List.set_cons_succ]
                refine wpAnyH_take (i := 4) (oi := _) (v := .bool (!decide (F = Ri))) rfl (by kernel_rfl) (by kernel_rfl) (by kernel_rfl) (fun _ _ _ h => h) (Or.inl ⟨by rfl, fun w hSw => by go_simp⟩) hHeld ?_
                try simp only [Act.put, List.setIfInBounds_toArray, List.set_cons_zero, List.set_cons_succ]
                refine wpAnyH_done (by kernel_rfl) ?_ _
                clear heq hHeld
                by_cases hFR : F = Ri
                · have hd : decide (F = Ri) = true := decide_eq_true hFR
                  rw [hd]
                  have HC2 := HCL.out hFR
                  go_wp2
                  go_roundw
                  case rel =>
                    refine ⟨n + 1, by omega, by go_num, hXF.out.below (Below.refl _ _).drew, hTF.out.kept rfl, (own_kept hOF.out (Below.refl _ _).drew), fun m hm y hy => ?_⟩
                    by_cases e : m = n
                    · subst e
                      rw [List.getElem?_eq_getElem hlt2, HI.out] at hy
                      simp at hy
                      subst hy
                      exact HC2
                    · exact HD.out m (by omega) y hy
                  case measure => simp [intOf]; omega
                · have hd : decide (F = Ri) = false := decide_eq_false hFR
                  rw [hd]
                  obtain ⟨I2, C2⟩ := HST.out hFR
                  have HX2 : Hid (wf.rangeAt X 0 (bls F)) := qX
                  clear hFR hd qX qXi qi qj
                  go_wp2_with (first | refine wpList_loadSet rfl (.tmp 11) rfl X 0 F rfl hfl ?_ ?_ | refine wpList_storeSet rfl rfl (.tmp 57) (.tmp 56) rfl G (i * 12) F rfl rfl hfl ?_ ?_)
                  · exact HX2.out
                  · exact hTF.out.thereAt i (by omega)
                  have T7 := (hTF.out.kept (w' := wf.drew) rfl).store i (by omega) F hfl
                  refine ⟨⟨_, (hXF.out.below (Below.refl _ _).drew).grow (grown_setCells G (bls F) (i * 12) wf.drew) (fun k e => by cases e; exact Nat.le_refl _), T7, I2⟩, ?_⟩
                  rw [T7.tw, HM.out]
                  exact C2
              · have hnn : n = (nx ss j).length := by omega
                subst hnn
                have H3 : Hid (GSt v w G u A wc) := hS
                have HT3 : Hid (TabAt wc G gs2) := hT
                have HD : Hid (∀ m, m < (nx ss j).length → ∀ y, (nx ss j)[m]? = some y → ClosedAt gs2 j y) := hD
                clear hS hT hO hD
                go_wp2
                go_roundw
                case rel =>
                  refine ⟨k + 1, by omega, by go_num, H3.out, HT3.out, fun m hm j' hj' y hy => ?_⟩
                  by_cases e : m = k
                  · subst e
                    rw [List.getElem?_eq_getElem hlt, HJ.out] at hj'
                    simp only [Option.some.injEq] at hj'
                    obtain rfl : j = j' := by omega
                    obtain ⟨q, hq, hqe⟩ := List.getElem_of_mem hy
                    exact HD.out q hq y (by rw [List.getElem?_eq_getElem hq, hqe])
                  · exact HC.out m (by omega) j' hj' y hy
                case measure => simp [intOf]; omega
          · have hkk : k = A.length := by omega
            subst hkk
            have hex := closed_exact hp hI (fun j hj y hy => by
              obtain ⟨q, hq, hqe⟩ := List.getElem_of_mem ((hA.2 _).2 ⟨j, rfl, hj⟩)
              exact hC q hq j (by rw [List.getElem?_eq_getElem hq, hqe]) y hy)
            have H3 : Hid (GSt v w G u A wb) := hS
            have HT3 : Hid (TabAt wb G gs2) := hT
            have HE : Hid (∀ i d, dm gs2 i d = true ↔ Dom ss d i) := hex
            clear hS hT hC hex
            go_wp2_with (first | refine wpList_loadTab rfl (.tmp 4) rfl G gs2 rfl ?_ ?_ | refine wpList_storeTab rfl rfl (.tmp 2) (.tmp 60) rfl (w.heap.size + 1) gs2 rfl rfl ?_ ?_ ?_)
            · exact HT3.out
            · exact HT3.out.flat
            · exact zero_there H3.out.r
            rw [Exit.noGoto_ret]
            have T7 : TabAt (wb.setCells (w.heap.size + 1) 0 (bls gs2.flatten)) (w.heap.size + 1) gs2 := TabAt.copied HT3.out.len HT3.out.row (zero_there H3.out.r)
            refine bodyPost_tab rfl (w.heap.size + 1) gs2 rfl T7 rfl ⟨gs2, rfl, HT3.out.len, HT3.out.row, HE.out, ?_⟩
            exact H3.out.bl.grown (grown_setCells _ _ _ _) (by have := H3.out.bl.size; omega) (fun k e => by cases e; omega)

end Go.Proofs.Ytjlfmjoallnojac
