/-
  Put together out of: Recur, CirclesBoth.
-/
import Derived.Test.YtmloeldgeegddaaSpecCircles
import Derived.Test.YtmloeldgeegddaaImplReach9
import Derived.Test.YtmloeldgeegddaaG20BeforeBoth
import Derived.Deep.RegionHeld3
import Derived.Test.YtmloeldgeegddaaG22ImplCircles
/-
  spec.Recursive, impl.Recursive.
-/
namespace Go.Proofs.Ytmloeldgeegddaa
open Go.RowKit
set_option linter.unusedVariables false
set_option maxHeartbeats 4000000
set_option maxRecDepth 20000

/-- Who comes to whom, of a right program. -/
def RelA (ps : List (List Stm)) (r : Nat → Nat → Bool) : Prop := programOk ps = true → ∃ c o, Groups ps r c o

theorem relA_some (ps : List (List Stm)) : ∃ r, RelA ps r := by
  cases hb : programOk ps with
  | false => exact ⟨fun _ _ => false, by simp [RelA, hb]⟩
  | true =>
    obtain ⟨r, c, o, h⟩ := groups_of hb
    exact ⟨r, fun _ => ⟨c, o, h⟩⟩

def recAns (ps : List (List Stm)) (r : Nat → Nat → Bool) (i : Int) : Bool := hasB ps i && (NC ps i.toNat).any (fun y => r y i.toNat)

/-- The closure: does one come from y to i? -/
theorem recClosure (ps : List (List Stm)) (r : Nat → Nat → Bool) (c o : List (List Nat)) (hok : programOk ps = true) (hG : Groups ps r c o) (v : Value) (w : World) (hl : ps.length ≤ maxLen) (hp : ∀ p ∈ ps, p.length ≤ maxLen) (hv : ReadsP w v ps) (P Q i y : Nat) (hy : y < ps.length)
    (hP : w.heap[P]? = some (.cells #[v] 26 (0, 0))) (hQ : w.heap[Q]? = some (.cells #[.int .i64 (i : Int)] 2 (0, 0))) :
    Calls Try.prog 92 #[.int .i64 (y : Int), .pointer (some ⟨P, 0, none⟩), .pointer (some ⟨Q, 0, none⟩)] w fun e w' => e = .returned (.bool (r y i)) ∧ Below w.heap.size w w' := by
  obtain ⟨A, hA⟩ := isReach_some (graph_of hok) hy
  have hAl := isReach_len (graph_of hok) hy hA
  have hRA : ReachA ps (y : Int) A := by
    have hb : hasB ps (y : Int) = true := by unfold hasB wiB; rw [hok]; simp; omega
    exact ⟨fun _ => by simpa using hA, fun h => by rw [hb] at h; cases h⟩
  have hre : ∀ W, Below w.heap.size w W → _ := fun W hW => implReach ps (y : Int) A hRA v W hl hp (readsP_below hv hW)
  have hco := fun u W (h : Reads W u (ints A)) => sliceContains A (i : Int) u W (by unfold maxLen; omega) h
  have hh := has_reach hG hy (k := i) hA
  have hco' : ∀ u W, Reads W u (ints A) → Calls Try.prog 93 #[u, .int .i64 (i : Int)] W fun e w' => e = .returned (.bool (r y i)) ∧ W = w' := fun u W h => by
    have := hco u W h
    unfold hasI at this
    rw [hh] at this
    exact this
  obtain ⟨cP, _⟩ := one_cell hP
  obtain ⟨cQ, _⟩ := one_cell hQ
  have zP := (Array.getElem?_eq_some_iff.1 hP).1
  have zQ := (Array.getElem?_eq_some_iff.1 hQ).1
  clear hco hh hP hQ hA
  generalize r y i = B at *
  go_enter Try.func92, Try.ntmps92
  go_wp2_with fail
  go_region_held3 (fun w' => w'.cell? ⟨P, 0, none⟩ = some v ∧ w'.cell? ⟨Q, 0, none⟩ = some (.int .i64 (i : Int))) (first | exact ⟨cP, cQ⟩ | exact ⟨(hc4 _ _ zP).trans cP, (hc4 _ _ zQ).trans cQ⟩) (first
    | (go_at_call 37; refine (hre _ (by go_grown)).mono ?_; rintro e w4 ⟨u4, rfl, o4, b4⟩; have M4 : Below w.heap.size w w4 := Below.trans (by go_grown) b4; obtain ⟨hc4, hf4⟩ := bcell M4; have R4 := reads_own o4)
    | (go_at_call 93; refine (hco' _ _ (reads_below R4 (by go_grown))).mono ?_; rintro e w5 ⟨rfl, rfl⟩))
  all_goals
    go_wp2
    go_ret
    exact ⟨rfl, M4⟩

theorem indexRec (ps : List (List Stm)) (r : Nat → Nat → Bool) (c o : List (List Nat)) (hok : programOk ps = true) (hG : Groups ps r c o) (v : Value) (w : World) (hl : ps.length ≤ maxLen) (hp : ∀ p ∈ ps, p.length ≤ maxLen) (hv : ReadsP w v ps) (P Q i : Nat) (xs : List Nat) (hx : ∀ y ∈ xs, y < ps.length) (hxl : xs.length ≤ 4) (u : Value) (hu : Reads w u (nats xs))
    (hP : w.heap[P]? = some (.cells #[v] 26 (0, 0))) (hQ : w.heap[Q]? = some (.cells #[.int .i64 (i : Int)] 2 (0, 0))) :
    Calls Try.prog 107 #[u, .func (.func 92) #[] #[.pointer (some ⟨P, 0, none⟩), .pointer (some ⟨Q, 0, none⟩)]] w fun e w' => ∃ q : Int, e = .returned (.int .i64 q) ∧ decide (0 ≤ q) = xs.any (fun y => r y i) ∧ -1 ≤ q ∧ q ≤ 9223372036854775807 ∧ Below w.heap.size w w' := by
  obtain ⟨ao, cap, rfl, hc⟩ := hu
  rw [nats_length]
  have hxl' : (xs.length : Int) ≤ 4 := by omega
  have zP := (Array.getElem?_eq_some_iff.1 hP).1
  have zQ := (Array.getElem?_eq_some_iff.1 hQ).1
  obtain ⟨B, hB⟩ : ∃ B, xs.any (fun y => r y i) = B := ⟨_, rfl⟩
  rw [hB]
  have HB : Hid _ := hB
  clear hB
  go_enter Try.func107, Try.ntmps107
  go_wp2
  go_loopw [8] (fun kv wr => ∃ k : Nat, k ≤ xs.length ∧ kv = .int .i64 k ∧ (xs.take k).any (fun y => r y i) = false ∧ Below w.heap.size w wr) (fun kv _ => xs.length - (intOf kv).toNat)
  case atStart => exact ⟨0, Nat.zero_le _, rfl, by simp, Below.refl _ _⟩
  case round =>
    obtain ⟨k, hk, rfl, hno, hL⟩ := hrel
    have HNO : Hid _ := hno
    clear hno
    by_cases hlt : k < xs.length
    · have hlt' : (k : Int) < (xs.length : Int) := by omega
      obtain ⟨g, off, rfl, hg⟩ := hc k _ (nats_get hlt)
      have hg := (hL.cell (World.block_lt_of_cell? w _ hg)).trans hg
      have hym : xs.getD k 0 ∈ xs := by simp only [List.getD_eq_getElem?_getD, List.getElem?_eq_getElem hlt, Option.getD_some]; exact List.getElem_mem hlt
      have hcl := recClosure ps r c o hok hG v wr hl hp (readsP_below hv hL) P Q i (xs.getD k 0) (hx _ hym) ((hL.block P zP).trans hP) ((hL.block Q zQ).trans hQ)
      have hsn : (xs.take (k + 1)).any (fun y => r y i) = r (xs.getD k 0) i := by
        rw [List.take_succ_eq_append_getElem hlt, List.any_append, HNO.out]
        simp [List.getD, hlt]
      have hyes : r (xs.getD k 0) i = true → B = true := fun h => by rw [← HB.out]; exact List.any_eq_true.2 ⟨_, hym, h⟩
      have HSN : Hid _ := hsn
      have HY : Hid _ := hyes
      clear hc hsn hyes
      generalize xs.getD k 0 = y at *
      cases hb : r y i with
      | true =>
        rw [hb] at hcl
        have HBT : Hid (B = true) := HY.out hb
        clear HSN HY hb
        go_wp2_with (go_at_call 92; refine hcl.mono ?_; rintro e w5 ⟨rfl, b5⟩)
        go_ret
        exact ⟨_, rfl, by rw [HBT.out]; simp, by omega, by omega, hL.trans (b5.mono hL.size)⟩
      | false =>
        rw [hb] at hcl
        have HN2 : Hid _ := HSN.out.trans hb
        clear HSN HY hb
        go_wp2_with (go_at_call 92; refine hcl.mono ?_; rintro e w5 ⟨rfl, b5⟩)
        go_roundw
        case rel => exact ⟨k + 1, by omega, by go_num, HN2.out, hL.trans (b5.mono hL.size)⟩
        case measure => simp [intOf]; omega
    · obtain rfl : k = xs.length := by omega
      have HF : Hid (B = false) := by
        show B = false
        rw [← HB.out]
        have := HNO.out
        rwa [List.take_of_length_le (Nat.le_refl _)] at this
      go_wp2
      go_ret
      exact ⟨_, rfl, by rw [HF.out]; simp, by omega, by omega, hL⟩

theorem containsRec (ps : List (List Stm)) (r : Nat → Nat → Bool) (c o : List (List Nat)) (hok : programOk ps = true) (hG : Groups ps r c o) (v : Value) (w : World) (hl : ps.length ≤ maxLen) (hp : ∀ p ∈ ps, p.length ≤ maxLen) (hv : ReadsP w v ps) (P Q i : Nat) (xs : List Nat) (hx : ∀ y ∈ xs, y < ps.length) (hxl : xs.length ≤ 4) (u : Value) (hu : Reads w u (nats xs))
    (hP : w.heap[P]? = some (.cells #[v] 26 (0, 0))) (hQ : w.heap[Q]? = some (.cells #[.int .i64 (i : Int)] 2 (0, 0))) :
    Calls Try.prog 76 #[u, .func (.func 92) #[] #[.pointer (some ⟨P, 0, none⟩), .pointer (some ⟨Q, 0, none⟩)]] w fun e w' => e = .returned (.bool (xs.any (fun y => r y i))) ∧ Below w.heap.size w w' := by
  have hi := indexRec ps r c o hok hG v w hl hp hv P Q i xs hx hxl u hu hP hQ
  go_enter Try.func76, Try.ntmps76
  go_wp2_with fail
  go_at_call 107
  refine hi.mono ?_
  rintro e w' ⟨q, rfl, hr, h1, h2, b1⟩
  have HR : Hid _ := hr
  clear hr hi
  go_wp2
  go_ret
  exact ⟨by rw [← HR.out]; simp, b1⟩

theorem indexNone (u fv : Value) (w : World) (hu : Reads w u []) :
    Calls Try.prog 107 #[u, fv] w fun e w' => e = .returned (.int .i64 (-1)) ∧ w = w' := by
  obtain ⟨ao, cap, rfl, _⟩ := hu
  go_enter Try.func107, Try.ntmps107
  go_wp2
  refine wp_loop_rounds 1 ?_
  rw [rounds_succ]
  go_wp2
  go_ret
  exact ⟨rfl, rfl⟩

theorem containsNone (u fv : Value) (w : World) (hu : Reads w u []) :
    Calls Try.prog 76 #[u, fv] w fun e w' => e = .returned (.bool false) ∧ w = w' := by
  have hi := indexNone u fv w hu
  go_enter Try.func76, Try.ntmps76
  go_wp2_with (go_at_call 107; refine hi.mono ?_; rintro e w' ⟨rfl, rfl⟩)
  go_ret
  exact ⟨rfl, rfl⟩

theorem implRecursive (ps : List (List Stm)) (r : Nat → Nat → Bool) (i : Int) (hr : RelA ps r) (v : Value) (w : World) (hl : ps.length ≤ maxLen) (hp : ∀ p ∈ ps, p.length ≤ maxLen) (hv : ReadsP w v ps) :
    Calls Try.prog 42 #[.agg #[v], .int .i64 i] w fun e w' => e = .returned (.bool (recAns ps r i)) ∧ Below w.heap.size w w' := by
  have bW : Below w.heap.size w ((w.alloc (.cells #[v] 26)).alloc (.cells #[.int .i64 i] 2)) := by go_grown
  have z0 : (w.alloc (.cells #[v] 26)).heap.size = w.heap.size + 1 := by simp
  have z1 : ((w.alloc (.cells #[v] 26)).alloc (.cells #[.int .i64 i] 2)).heap.size = w.heap.size + 2 := by simp
  have H0 : ((w.alloc (.cells #[v] 26)).alloc (.cells #[.int .i64 i] 2)).heap[w.heap.size]? = some (.cells #[v] 26 (0, 0)) := (old_block (by omega)).trans (heap_alloc_new w _)
  have H1 : ((w.alloc (.cells #[v] 26)).alloc (.cells #[.int .i64 i] 2)).heap[w.heap.size + 1]? = some (.cells #[.int .i64 i] 2 (0, 0)) := by
    have := heap_alloc_new (w.alloc (.cells #[v] 26)) (.cells #[.int .i64 i] 2)
    rw [z0] at this
    exact this
  have hca := implCalls ps i v _ hl hp (readsP_below hv bW)
  go_enter Try.func42, Try.ntmps42
  go_wp2_with fail
  go_at_call 9
  refine hca.mono ?_
  rintro e w2 ⟨u, rfl, ou, b2⟩
  clear hca
  have L2 := bW.trans (b2.mono bW.size)
  have P2 := (b2.block w.heap.size (by omega)).trans H0
  have Q2 := (b2.block (w.heap.size + 1) (by omega)).trans H1
  cases hb : hasB ps i with
  | false =>
    have e1 : callsAns ps i = [] := by unfold callsAns; rw [hb]; rfl
    have e2 : recAns ps r i = false := by unfold recAns; rw [hb]; rfl
    rw [e1] at ou
    have hn := fun fv => containsNone u fv w2 (reads_own ou)
    have HE2 : Hid _ := e2
    clear e1 e2 P2 Q2
    go_wp2_with (go_at_call 76; refine (hn _).mono ?_; rintro e w3 ⟨rfl, rfl⟩)
    go_ret
    exact ⟨by rw [HE2.out]; rfl, L2⟩
  | true =>
    obtain ⟨hok, j, hj, rfl, _⟩ := hasB_true hb
    obtain ⟨c, o, hG⟩ := hr hok
    have e2 : recAns ps r (j : Int) = (NC ps j).any (fun y => r y j) := by unfold recAns; rw [hb]; simp
    rw [callsAns_callG hok hj, callG_NC hok, List.length_map] at ou
    have hl4 : (NC ps j).length ≤ 4 := by
      have := (graph_of hok).len j
      rw [callG_NC hok, List.length_map] at this
      exact this
    have hn := containsRec ps r c o hok hG v w2 hl hp (readsP_below hv L2) w.heap.size (w.heap.size + 1) j (NC ps j) (fun y hy => NC_lt hy) hl4 u (reads_own ou) P2 Q2
    obtain ⟨B, hB⟩ : ∃ B, (NC ps j).any (fun y => r y j) = B := ⟨_, rfl⟩
    rw [hB] at hn e2
    have HE2 : Hid _ := e2
    clear e2 P2 Q2 ou hB
    go_wp2_with (go_at_call 76; refine hn.mono ?_; rintro e w3 ⟨rfl, b3⟩)
    go_ret
    exact ⟨by rw [HE2.out]; rfl, L2.trans (b3.mono L2.size)⟩

theorem specRecursive (ps : List (List Stm)) (r : Nat → Nat → Bool) (i : Int) (hr : RelA ps r) (v : Value) (w : World) (hl : ps.length ≤ maxLen) (hp : ∀ p ∈ ps, p.length ≤ maxLen) (hv : ReadsP w v ps) :
    Calls Try.prog 43 #[.agg #[v], .int .i64 i] w fun e w' => e = .returned (.bool (recAns ps r i)) ∧ Below w.heap.size w w' := by
  have hb0 : Below w.heap.size w (w.alloc (.cells #[v] 26)) := by go_grown
  have he := l3In ps i v _ hl hp (readsP_below hv hb0)
  have H0 := heap_alloc_new w (.cells #[v] 26)
  have s0 : (w.alloc (.cells #[v] 26)).heap.size = w.heap.size + 1 := by simp
  cases hb : hasB ps i with
  | false =>
    rw [hb] at he
    have e2 : recAns ps r i = false := by unfold recAns; rw [hb]; rfl
    rw [e2]
    go_enter Try.func43, Try.ntmps43
    go_wp2_with (go_at_call 54; refine he.mono ?_; rintro e w2 ⟨rfl, b2⟩)
    go_ret
    exact ⟨rfl, hb0.trans (b2.mono hb0.size)⟩
  | true =>
    rw [hb] at he
    obtain ⟨hok, j, hj, rfl, _⟩ := hasB_true hb
    obtain ⟨c, o, hG⟩ := hr hok
    have hgr := graph_of hok
    obtain ⟨h4, _, hpr⟩ := programOk_len hok
    have e2 : recAns ps r (j : Int) = (NC ps j).any (fun y => r y j) := by unfold recAns; rw [hb]; simp
    have hl4 : (NC ps j).length ≤ 4 := by
      have := hgr.len j
      rw [callG_NC hok, List.length_map] at this
      exact this
    rw [e2]
    obtain ⟨B, hB⟩ : ∃ B, (NC ps j).any (fun y => r y j) = B := ⟨_, rfl⟩
    rw [hB]
    have HB : Hid _ := hB
    clear hB e2 hb
    go_enter Try.func43, Try.ntmps43
    go_wp2_with fail
    go_at_call 54
    refine he.mono ?_
    rintro e w2 ⟨rfl, b2⟩
    clear he
    have X2 := (b2.block w.heap.size (by omega)).trans H0
    obtain ⟨c2, f2⟩ := one_cell X2
    have L2 := hb0.trans (b2.mono hb0.size)
    have s2 := b2.size
    have h3 := l3Calls ps j v w2 hj (by unfold maxLen; omega) (procOk_len (hpr ps[j] (List.getElem_mem hj)).1) (readsP_below hv L2)
    rw [← callG_eq hok hj, callG_NC hok, List.length_map] at h3
    go_wp2_with fail
    go_at_call 55
    refine h3.mono ?_
    rintro e w3 ⟨g3, cap3, rfl, own3, b3⟩
    clear h3
    have own3 : w3.ownsRow w2.heap.size 2 1 (.slice (some ⟨g3, 0, none⟩) (NC ps j).length cap3) (NC ps j).length (nats (NC ps j)) := own3
    have L3 := L2.trans (b3.mono L2.size)
    have X3 := (b3.block w.heap.size (by omega)).trans X2
    have HXS : Hid (∀ y ∈ NC ps j, y < ps.length) := fun y hy => NC_lt hy
    obtain ⟨xs, hxs⟩ : ∃ xs, NC ps j = xs := ⟨_, rfl⟩
    rw [hxs] at own3 hl4 HB HXS ⊢
    have hl4' : (xs.length : Int) ≤ 4 := by omega
    have z3 := b3.size
    have HO : Hid (w3.ownsRow w2.heap.size 2 1 (.slice (some ⟨g3, 0, none⟩) xs.length cap3) xs.length (nats xs)) := own3
    clear hxs c2 f2 own3 X2 H0
    go_wp2
    go_loopw [6] (fun kv wr => ∃ k : Nat, k ≤ xs.length ∧ kv = .int .i64 k ∧ (xs.take k).any (fun y => r y j) = false ∧ Below w3.heap.size w3 wr) (fun kv _ => xs.length - (intOf kv).toNat)
    case atStart => exact ⟨0, Nat.zero_le _, rfl, by simp, Below.refl _ _⟩
    case round =>
      obtain ⟨k, hk, rfl, hno, hL⟩ := hrel
      have HNO : Hid _ := hno
      clear hno
      by_cases hlt : k < xs.length
      · have hlt' : (k : Int) < (xs.length : Int) := by omega
        have hO := own_kept HO.out hL
        have hym : xs.getD k 0 ∈ xs := by simp only [List.getD_eq_getElem?_getD, List.getElem?_eq_getElem hlt, Option.getD_some]; exact List.getElem_mem hlt
        have hyl := HXS.out _ hym
        obtain ⟨A, hA⟩ := isReach_some hgr hyl
        have hAl := isReach_len hgr hyl hA
        have hh := has_reach hG hyl (k := j) hA
        have LW : Below w.heap.size w wr := L3.trans (hL.mono L3.size)
        have hre : ∀ W, Below wr.heap.size wr W → _ := fun W hW => l9Reach ps (xs.getD k 0) A v W hok hyl hA (readsP_below (readsP_below hv LW) hW)
        have hha : ∀ u W, Reads W u (ints A) → Calls Try.prog 90 #[u, .int .i64 (j : Int)] W fun e w' => e = .returned (.bool (r (xs.getD k 0) j)) ∧ Below W.heap.size W w' := fun u W h => by
          have := l1Has A (j : Int) u W (by unfold maxLen; omega) h
          rw [hh] at this
          exact this
        have cg := hO.cellAt k (by omega)
        rw [nats_get hlt] at cg
        have zL := hL.size
        have cb := (one_cell ((hL.block w.heap.size (by omega)).trans X3)).1
        have zb : w.heap.size < wr.heap.size := by omega
        have zg : g3 < wr.heap.size := (hO.lt g3 rfl).2
        have hsn : (xs.take (k + 1)).any (fun y => r y j) = r (xs.getD k 0) j := by
          rw [List.take_succ_eq_append_getElem hlt, List.any_append, HNO.out]
          simp [List.getD, hlt]
        have hyes : r (xs.getD k 0) j = true → B = true := fun h => by rw [← HB.out]; exact List.any_eq_true.2 ⟨_, hym, h⟩
        have HSN : Hid _ := hsn
        have HY : Hid _ := hyes
        clear hO hsn hyes hh hA
        generalize xs.getD k 0 = y at *
        generalize hry : r y j = T at *
        have HRY : Hid _ := hry
        clear hry
        go_wp2_with fail
        go_region_held3 (fun w' => w'.cell? ⟨w.heap.size, 0, none⟩ = some v ∧ w'.cell? ⟨g3, k, none⟩ = some (.int .i64 (y : Int))) (first | exact ⟨cb, cg⟩ | exact ⟨(hc4 _ _ zb).trans cb, (hc4 _ _ zg).trans cg⟩ | exact ⟨(hc5 _ _ zb).trans cb, (hc5 _ _ zg).trans cg⟩) (first
          | (go_at_call 91; refine (hre _ (by go_grown)).mono ?_; rintro e w4 ⟨g4, c4, rfl, o4, b4⟩; have M4 : Below wr.heap.size wr w4 := Below.trans (by go_grown) b4; obtain ⟨hc4, hf4⟩ := bcell M4; have R4 := reads_own o4)
          | (go_at_call 90; refine (hha _ _ (reads_below R4 (by go_grown))).mono ?_; rintro e w5 ⟨rfl, b5⟩; have M5 : Below wr.heap.size wr w5 := Below.trans M4 (Below.trans (by go_grown) (b5.mono M4.size)); obtain ⟨hc5, hf5⟩ := bcell M5))
        all_goals
          cases T with
          | true =>
            have HBT : Hid (B = true) := HY.out rfl
            go_wp2
            go_ret
            exact ⟨by rw [HBT.out]; rfl, LW.trans (M5.mono LW.size)⟩
          | false =>
            go_wp2
            go_roundw
            case rel => exact ⟨k + 1, by omega, by go_num, HSN.out, hL.trans (M5.mono hL.size)⟩
            case measure => simp [intOf]; omega
      · obtain rfl : k = xs.length := by omega
        have HF : Hid (B = false) := by
          show B = false
          rw [← HB.out]
          have := HNO.out
          rwa [List.take_of_length_le (Nat.le_refl _)] at this
        have hge : ¬ (xs.length : Int) < (xs.length : Int) := by omega
        go_wp2
        go_ret
        exact ⟨by rw [HF.out]; rfl, L3.trans (hL.mono L3.size)⟩

end Go.Proofs.Ytmloeldgeegddaa

/-
  spec.Circles; what both sides answer.
-/
namespace Go.Proofs.Ytmloeldgeegddaa
open Go.RowKit
set_option linter.unusedVariables false
set_option maxHeartbeats 4000000
set_option maxRecDepth 20000

theorem specCircles (ps : List (List Stm)) (c : List (List Nat)) (hc : CircA ps c) (v : Value) (w : World) (hl : ps.length ≤ maxLen) (hp : ∀ p ∈ ps, p.length ≤ maxLen) (hv : ReadsP w v ps) :
    Calls Try.prog 39 #[.agg #[v]] w fun e w' => ∃ u us, e = .returned u ∧ OwnSS w' w.heap.size u us (castLL c) ∧ Below w.heap.size w w' := by
  have hb0 : Below w.heap.size w (w.alloc (.cells #[v] 26)) := by go_grown
  have he := specProgramOk ps v _ hl hp (readsP_below hv hb0)
  have H0 := heap_alloc_new w (.cells #[v] 26)
  have s0 : (w.alloc (.cells #[v] 26)).heap.size = w.heap.size + 1 := by simp
  cases hok : programOk ps
  · rw [hok] at he
    obtain rfl := hc.2 hok
    go_enter Try.func39, Try.ntmps39
    go_wp2_with (go_at_call 13; refine he.mono ?_; rintro e w2 ⟨rfl, b2⟩)
    go_ret
    have L2 := hb0.trans (b2.mono hb0.size)
    exact ⟨_, [], rfl, (made0S w2).mono L2.size, L2.alloc L2.size _⟩
  · rw [hok] at he
    obtain ⟨r, o, hG⟩ := hc.1 hok
    go_enter Try.func39, Try.ntmps39
    go_wp2_with fail
    go_at_call 13
    refine he.mono ?_
    rintro e w2 ⟨rfl, b2⟩
    obtain ⟨c2, f2⟩ := one_cell ((b2.block w.heap.size (by omega)).trans H0)
    have L2 := hb0.trans (b2.mono hb0.size)
    have h3 := l9Circles ps r c o hok hG v w2 (readsP_below hv L2)
    clear he
    go_wp2_with fail
    go_at_call 89
    refine h3.mono ?_
    rintro e w3 ⟨u, us, rfl, own3, b3⟩
    go_wp2
    go_ret
    exact ⟨_, us, rfl, own3.mono L2.size, L2.trans (b3.mono L2.size)⟩

theorem mem_flat_len {c : List (List Nat)} {g : List Nat} (h : g ∈ c) : g.length ≤ c.flatten.length := by
  induction c with
  | nil => simp at h
  | cons x c ih =>
    rw [List.flatten_cons, List.length_append]
    rcases List.mem_cons.1 h with rfl | h
    · omega
    · have := ih h; omega

theorem circA_len {ps : List (List Stm)} {c : List (List Nat)} (hc : CircA ps c) : (castLL c).length ≤ 12 ∧ ∀ xs ∈ castLL c, xs.length ≤ 1000 := by
  cases hok : programOk ps with
  | false => rw [hc.2 hok]; simp [castLL]
  | true =>
    obtain ⟨r, o, hG⟩ := hc.1 hok
    obtain ⟨h4, h1, _⟩ := programOk_len hok
    have e1 := hG.asked.cn
    refine ⟨?_, fun xs hx => ?_⟩
    · have := foldS_len ps.length r ps.length
      have e2 : (circS ps.length r).length ≤ ps.length := this
      rw [hG.circ] at e2
      simp [castLL]
      omega
    · obtain ⟨g, hg, rfl⟩ := List.mem_map.1 hx
      have := mem_flat_len hg
      simp
      omega

end Go.Proofs.Ytmloeldgeegddaa
