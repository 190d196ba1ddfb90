/-
  Chapter 12, the program's side: openPlaces; WalkOk, Open, Steps, Holding.
-/
import Derived.Test.YtnkalhdhmmdofaaImplWi
namespace Go.Proofs.Ytnkalhdhmmdofaa
open Go.RowKit
set_option linter.unusedVariables false
set_option linter.unusedSimpArgs false
set_option maxHeartbeats 4000000
set_option maxRecDepth 20000

theorem implWalkOk (ps : List (List Stm)) (xs : List Int) (n : Nat) (v xv : Value) (w : World) (hl : ps.length ≤ maxLen) (hp : ∀ p ∈ ps, p.length ≤ maxLen) (hv : ReadsP w v ps)
    (hx : xs.length = 2 * n) (hn : n ≤ maxLen) (hxv : Reads2 w xv n (ints xs)) (hcap : ∀ a c', xv = .slice a n c' → n ≤ c') :
    Calls Try.prog 12 #[.agg #[v], xv] w fun e w' => e = .returned (.bool (walkA 1 ps xs n).isSome) ∧ Below w.heap.size w w' := by
  have b0 : Below w.heap.size w (w.alloc (.cells #[v] 26)) := by go_grown
  have hw := implWalked ps 1 xs n v xv _ hl hp (readsP_below hv b0) hx hn (reads2_below hxv b0) hcap
  obtain ⟨xo, xc, rfl, _⟩ := hxv
  obtain ⟨bb, hbb⟩ : ∃ bb, (walkA 1 ps xs n).isSome = bb := ⟨_, rfl⟩
  have HBB : Hid ((walkA 1 ps xs n).isSome = bb) := hbb
  rw [hbb]
  clear hbb hcap
  go_enter Try.func12, Try.ntmps12
  go_wp2_with fail
  go_at_call 15
  refine hw.mono ?_
  rintro e w1 ⟨⟨pv, b, rfl, hno, hyes⟩, b1⟩
  have HB : Hid (b = bb) := by
    show b = bb
    rw [← HBB.out]
    cases h : walkA 1 ps xs n with
    | none => exact hno (.inr h)
    | some s => exact (hyes s (.inl rfl) h).1
  clear hno hyes hw
  go_wp2_with fail
  go_ret
  exact ⟨by rw [HB.out]; rfl, b0.trans (b1.mono b0.size)⟩


theorem implSteps (ps : List (List Stm)) (xs : List Int) (n : Nat) (v xv : Value) (w : World) (hl : ps.length ≤ maxLen) (hp : ∀ p ∈ ps, p.length ≤ maxLen) (hv : ReadsP w v ps)
    (hx : xs.length = 2 * n) (hn : n ≤ maxLen) (hxv : Reads2 w xv n (ints xs)) (hcap : ∀ a c', xv = .slice a n c' → n ≤ c') :
    Calls Try.prog 6 #[.agg #[v], xv] w fun e w' => ∃ u, e = .returned u ∧ OwnPl w' w.heap.size u (stepsA ps xs n) ∧ Below w.heap.size w w' := by
  have b0 : Below w.heap.size w (w.alloc (.cells #[v] 26)) := by go_grown
  have hw := implWalked ps 1 xs n v xv _ hl hp (readsP_below hv b0) hx hn (reads2_below hxv b0) hcap
  obtain ⟨A, hA⟩ : ∃ A, stepsA ps xs n = A := ⟨_, rfl⟩
  have HA : Hid (stepsA ps xs n = A) := hA
  rw [hA]
  obtain ⟨xo, xc, rfl, _⟩ := hxv
  unfold maxLen at hn
  clear hA hcap
  go_enter Try.func6, Try.ntmps6
  go_wp2_with fail
  go_at_call 15
  refine hw.mono ?_
  rintro e w1 ⟨⟨pv, b, rfl, hno, hyes⟩, b1⟩
  have BB : Hid (Below w.heap.size w w1) := b0.trans (b1.mono b0.size)
  clear b1 hw
  cases h : walkA 1 ps xs n with
  | none =>
    have HA3 : Hid (A = []) := by show A = []; rw [← HA.out]; unfold stepsA; rw [h]
    obtain rfl := hno (.inr h)
    clear hno hyes h HA
    go_wp2_with fail
    go_ret
    exact ⟨_, rfl, by rw [HA3.out]; exact nilP _ _, BB.out⟩
  | some s =>
    obtain ⟨hoB, hn1, h100, hok⟩ := walkA_ok (.inl rfl) h
    obtain ⟨_, _, hcan, h4⟩ := okB_parts hoB
    obtain ⟨rfl, B, rfl, hWA⟩ := hyes s (.inl rfl) h
    by_cases hn100 : n = 100
    · have HA3 : Hid (A = []) := by show A = []; rw [← HA.out]; unfold stepsA; rw [h]; simp [hn100]
      have hd : (n : Int) = 100 := by omega
      clear hno hyes h HA
      go_wp2_with fail
      go_ret
      exact ⟨_, rfl, by rw [HA3.out]; exact nilP _ _, BB.out⟩
    · have HA3 : Hid (A = nxW ps s) := by show A = _; rw [← HA.out]; unfold stepsA; rw [h]; simp [hn100]
      have hd : ((n : Int) == 100) = false := by simp; omega
      have hnp := implNextPl ps 1 s _ B (n - 1) v w1 hcan h4 (by omega) hok (readsP_below hv BB.out) hWA
      clear hno hyes h HA
      go_wp2_with fail
      go_at_call 16
      refine hnp.mono ?_
      rintro e w2 ⟨u, rfl, ou, b2⟩
      go_wp2_with fail
      go_ret
      exact ⟨_, rfl, by rw [HA3.out]; exact ou.mono BB.out.size, BB.out.trans (b2.mono BB.out.size)⟩

theorem implOpenPl (c : Int) (s : WS) (base B : Nat) (v : Value) (w : World) (hl : s.op.length ≤ 100) (hW : WAt w base B v c s) :
    Calls Try.prog 17 #[.pointer (some ⟨B, 0, none⟩)] w fun e w' => ∃ u, e = .returned u ∧ OwnPl w' w.heap.size u (flatP s.op) ∧ Below w.heap.size w w' := by
  obtain ⟨hB, cv, hblk, hown⟩ := hW
  obtain ⟨⟨d0, d1, d2, d3, d4, d5⟩, _⟩ := wk_cells hblk
  obtain ⟨ip, hip, hq0, hq1, hq2⟩ := info_parts infoPlace
  obtain ⟨ca, cm, cc, rfl, hcm⟩ := own_lv hown
  subst hcm
  have HOW : Hid (w.ownsRow base 69 3 (.slice ca s.op.length cc) s.op.length (ints (flat3 s.op))) := hown
  clear hown
  generalize s.op = op at *
  go_enter Try.func17, Try.ntmps17
  go_wp2_with fail
  go_loopw [3, 11] (fun ov kv wr => ∃ k : Nat, k ≤ op.length ∧ kv = .int .i64 k ∧ OwnPl wr w.heap.size ov (flatP (op.take k)) ∧ Below w.heap.size w wr) (fun _ kv _ => op.length - (intOf kv).toNat)
  case atStart => exact ⟨0, Nat.zero_le _, rfl, nilP _ _, Below.refl _ _⟩
  case round =>
    obtain ⟨k, hk, rfl, hO, hB⟩ := hrel
    have HO : Hid _ := hO
    have HB : Hid (Below w.heap.size w wr) := hB
    by_cases hlt : k < op.length
    · have hlt' : (k : Int) < (op.length : Int) := by omega
      have hw9 := own_kept HOW.out hB
      obtain ⟨g3, c3', hf3, _, _⟩ := World.ownsRow.form hw9 (by omega)
      cases hf3
      obtain ⟨r1, r2, r3⟩ := call_cells hw9 (k := k) (t := op[k]) (by simp [hlt])
      have z3 := World.block_lt_of_cell? wr _ r1
      simp only at z3
      have HST : Hid (flatP (op.take (k + 1)) = flatP (op.take k) ++ [(op[k].1 : Int), (op[k].2.1 : Int)]) := by
        show _ = _
        rw [List.take_succ_eq_append_getElem hlt, flatP_app]
      obtain ⟨m, hm, hown⟩ := hO.ex
      have hmb : m ≤ 100 := by
        rw [flatP_len] at hm
        simp at hm
        omega
      have hlo : ∀ q, u3.ownBlock = some q → w.heap.size ≤ q := fun q hq => (hown.lt q hq).1
      clear hO hB hw9
      generalize op[k] = t at *
      obtain ⟨tp, ti, tk⟩ := t
      simp only at r1 r2 r3 HST
      obtain ⟨V, hV⟩ : ∃ V, (wr.alloc (.cells #[.int .i64 (tp : Int), .int .i64 (ti : Int), .int .i64 tk] 69)).alloc (.cells #[.int .i64 (tp : Int), .int .i64 (ti : Int)] 34) = V := ⟨_, rfl⟩
      have bV : Below wr.heap.size wr V := by rw [← hV]; go_grown
      have hnb := heap_alloc_new (wr.alloc (.cells #[.int .i64 (tp : Int), .int .i64 (ti : Int), .int .i64 tk] 69)) (.cells #[.int .i64 (tp : Int), .int .i64 (ti : Int)] 34)
      rw [hV, World.size_alloc] at hnb
      have HNW : Hid _ := World.news_of_block hnb
      have HAL : Hid (V.ownsRow w.heap.size 34 2 u3 m (ints (flatP (op.take k)))) := own_kept hown bV
      have HBA : Hid (Below w.heap.size w V) := HB.out.trans (bV.mono HB.out.size)
      have hm3 : w.heap.size ≤ V.heap.size := HBA.out.size
      have HM : Hid _ := hm
      clear hown hm bV hnb
      have hm1 : m + 1 ≤ maxLen := by unfold maxLen; omega
      have hm2 : (m + 1) * 16 ≤ 140737488355328 := by omega
      go_wp2_with (first
        | (at_builtin; refine wpList_append_own _ rfl (.tmp 15) (.tmp 18) 27 rfl w.heap.size 34 ip (.agg #[.int .i64 0, .int .i64 0]) 2 16 Try.underlying27 hip hq0 hq1 hq2 rfl (by decide) u3 m _ rfl HAL.out ⟨wr.heap.size + 1, 0, none⟩ 1 1 [.int .i64 (tp : Int), .int .i64 (ti : Int)] rfl rfl HNW.out (two_one tp ti) hm1 hm2 hm3 ?_; intro v7 w7 own7 grow7 _; refine stopG ?_))
      unfold StopG
      have S7 : Hid (OwnPl w7 w.heap.size v7 (flatP (op.take (k + 1)))) := by
        rw [HST.out]
        exact ⟨m + 1, by simp [HM.out]; omega, by rw [ints_append]; exact own7⟩
      have B7 : Hid (Below w.heap.size w w7) := HBA.out.grown grow7 HBA.out.size hlo
      clear own7 grow7
      go_wp2_with fail
      go_roundw
      case rel => exact ⟨k + 1, by omega, by go_num, S7.out, B7.out⟩
      case measure => simp [intOf]; omega
    · have hkk : k = op.length := by omega
      subst hkk
      rw [List.take_length] at HO
      go_wp2_with fail
      go_ret
      exact ⟨_, rfl, HO.out, HB.out⟩

theorem implOpen (ps : List (List Stm)) (xs : List Int) (n : Nat) (v xv : Value) (w : World) (hl : ps.length ≤ maxLen) (hp : ∀ p ∈ ps, p.length ≤ maxLen) (hv : ReadsP w v ps)
    (hx : xs.length = 2 * n) (hn : n ≤ maxLen) (hxv : Reads2 w xv n (ints xs)) (hcap : ∀ a c', xv = .slice a n c' → n ≤ c') :
    Calls Try.prog 7 #[.agg #[v], xv] w fun e w' => ∃ u, e = .returned u ∧ OwnPl w' w.heap.size u (openA ps xs n) ∧ Below w.heap.size w w' := by
  have b0 : Below w.heap.size w (w.alloc (.cells #[v] 26)) := by go_grown
  have hw := implWalked ps 1 xs n v xv _ hl hp (readsP_below hv b0) hx hn (reads2_below hxv b0) hcap
  obtain ⟨A, hA⟩ : ∃ A, openA ps xs n = A := ⟨_, rfl⟩
  have HA : Hid (openA ps xs n = A) := hA
  rw [hA]
  obtain ⟨xo, xc, rfl, _⟩ := hxv
  clear hA hcap
  go_enter Try.func7, Try.ntmps7
  go_wp2_with fail
  go_at_call 15
  refine hw.mono ?_
  rintro e w1 ⟨⟨pv, b, rfl, hno, hyes⟩, b1⟩
  have BB : Hid (Below w.heap.size w w1) := b0.trans (b1.mono b0.size)
  clear b1 hw
  cases h : walkA 1 ps xs n with
  | none =>
    have HA3 : Hid (A = []) := by show A = []; rw [← HA.out]; unfold openA; rw [h]
    obtain rfl := hno (.inr h)
    clear hno hyes h HA
    go_wp2_with fail
    go_ret
    exact ⟨_, rfl, by rw [HA3.out]; exact nilP _ _, BB.out⟩
  | some s =>
    obtain ⟨_, _, h100, hok⟩ := walkA_ok (.inl rfl) h
    have hln := hok.len
    obtain ⟨rfl, B, rfl, hWA⟩ := hyes s (.inl rfl) h
    have HA3 : Hid (A = flatP s.op) := by show A = _; rw [← HA.out]; unfold openA; rw [h]
    have hop := implOpenPl 1 s _ B v w1 (by omega) hWA
    clear hno hyes h HA
    go_wp2_with fail
    go_at_call 17
    refine hop.mono ?_
    rintro e w2 ⟨u, rfl, ou, b2⟩
    go_wp2_with fail
    go_ret
    exact ⟨_, rfl, by rw [HA3.out]; exact ou.mono BB.out.size, BB.out.trans (b2.mono BB.out.size)⟩

end Go.Proofs.Ytnkalhdhmmdofaa
