/-
  Put together out of: Numbers, Called, CallsBoth.
-/
import Derived.Test.YtmloeldgeegddaaPut
import Derived.Test.YtmloeldgeegddaaG05CallsFn
/-
  impl.numbersIn.
-/
namespace Go.Proofs.Ytmloeldgeegddaa
open Go.RowKit
set_option linter.unusedVariables false
set_option maxHeartbeats 1000000

/-- The numbers in a set, from i on. -/
def nums : List Bool → Int → List Int
  | [], _ => []
  | b :: bs, i => if b then i :: nums bs (i + 1) else nums bs (i + 1)

theorem nums_snoc : ∀ (bs : List Bool) (b : Bool) (i : Int), nums (bs ++ [b]) i = nums bs i ++ (if b then [i + bs.length] else [])
  | [], b, i => by cases b <;> simp [nums]
  | c :: bs, b, i => by
    have e : i + 1 + (bs.length : Int) = i + ((bs.length : Int) + 1) := by omega
    cases c <;> simp [nums, nums_snoc bs b (i + 1), e]

theorem nums_length : ∀ (bs : List Bool) (i : Int), (nums bs i).length ≤ bs.length
  | [], _ => by simp [nums]
  | b :: bs, i => by
    have := nums_length bs (i + 1)
    cases b <;> simp [nums] <;> omega

theorem numbersIn (bs : List Bool) (v : Value) (w : World) (hl : bs.length ≤ 1000000) (hv : Reads w v (bs.map .bool)) :
    Calls Try.prog 49 #[v] w fun e w' => ∃ u, e = .returned u ∧ w'.ownsRow w.heap.size 2 1 u (nums bs 0).length (ints (nums bs 0)) ∧ Below w.heap.size w w' := by
  obtain ⟨i0, hi, hz0, hz1, hz2⟩ := info_parts infoInt
  obtain ⟨ao, cap, rfl, hc⟩ := hv
  simp only [List.length_map]
  obtain ⟨R, hR⟩ : ∃ R, nums bs 0 = R := ⟨_, rfl⟩
  rw [hR]
  have HR : Hid _ := hR
  clear hR
  go_enter Try.func49, Try.ntmps49
  go_wp2
  go_loopw [3, 8] (fun o i wr => ∃ (k : Nat), k ≤ bs.length ∧ i = .int .i64 k ∧
      wr.ownsRow w.heap.size 2 1 o (nums (bs.take k) 0).length (ints (nums (bs.take k) 0)) ∧ Below w.heap.size w wr) (fun _ i _ => bs.length - (intOf i).toNat)
  case atStart => exact ⟨0, Nat.zero_le _, rfl, ⟨by simp [nums, ints], .inl ⟨rfl, by simp [nums]⟩⟩, Below.refl _ _⟩
  case round =>
    obtain ⟨k, hk, rfl, hown, hb⟩ := hrel
    by_cases hlt : k < bs.length
    · have hlt' : (k : Int) < (bs.length : Int) := by omega
      obtain ⟨g, off, rfl, a0⟩ := hc k (.bool bs[k]) (by simp [hlt])
      have a0 := (hb.cell (World.block_lt_of_cell? w _ a0)).trans a0
      have hsn : nums (bs.take (k + 1)) 0 = nums (bs.take k) 0 ++ (if bs[k] then [(k : Int)] else []) := by
        rw [List.take_succ_eq_append_getElem hlt, nums_snoc, Int.zero_add, List.length_take, Nat.min_eq_left (by omega)]
      have HS : Hid _ := hsn
      have hlen := nums_length (bs.take k) 0
      have hlen2 : (bs.take k).length ≤ k := List.length_take_le _ _
      clear hc hsn
      generalize bs[k] = b at *
      generalize nums (bs.take k) 0 = xs at *
      cases b
      · have HP : Hid (nums (bs.take (k + 1)) 0 = xs) := HS.out.trans (by simp)
        go_wp2
        go_roundw
        case rel => exact ⟨k + 1, by omega, by go_num, by rw [HP.out]; exact hown, hb⟩
        case measure => simp [intOf]; omega
      · have HP : Hid (nums (bs.take (k + 1)) 0 = xs ++ [(k : Int)]) := HS.out
        have B1 : Hid (Below w.heap.size w (wr.alloc (.cells #[.int .i64 (k : Int)] 2))) := hb.alloc hb.size _
        have sz := hb.size
        have HSZ : Hid (w.heap.size ≤ (wr.alloc (.cells #[.int .i64 (k : Int)] 2)).heap.size) := by
          show w.heap.size ≤ (wr.alloc (.cells #[.int .i64 (k : Int)] 2)).heap.size
          simp; omega
        clear HS
        go_wp2_with (first
          | (at_builtin; refine wpList_append_own _ rfl (.tmp 14) (.tmp 16) 30 rfl w.heap.size 2 i0 (.int .i64 0) 1 8 Try.underlying30 hi hz0 hz1 hz2 rfl (by decide) _ _ _ rfl (hown.alloc _) ⟨wr.heap.size, 0, none⟩ 1 _ [.int .i64 (k : Int)] rfl rfl (cell_one wr k) (ints_oneCell [(k : Int)]) (by unfold maxLen; omega) (by omega) HSZ.out ?_; intro v2 w2 own2 grow2 _; have L2 := below_app B1.out grow2 (fun q hq => (hown.lt q hq).1))
          | go_in)
        have own3 : Hid (w2.ownsRow w.heap.size 2 1 v2 (xs ++ [(k : Int)]).length (ints (xs ++ [(k : Int)]))) := by
          show w2.ownsRow w.heap.size 2 1 v2 (xs ++ [(k : Int)]).length (ints (xs ++ [(k : Int)]))
          simpa [ints] using own2
        go_roundw
        case rel => exact ⟨k + 1, by omega, by go_num, by rw [HP.out]; exact own3.out, L2⟩
        case measure => simp [intOf]; omega
    · have hkk : k = bs.length := by omega
      subst hkk
      rw [List.take_length, HR.out] at hown
      go_wp2
      go_ret
      exact ⟨_, rfl, hown, hb⟩

end Go.Proofs.Ytmloeldgeegddaa

/-
  impl.numbersIn, impl.calledBy; spec.Calls, impl.Calls.
-/
namespace Go.Proofs.Ytmloeldgeegddaa
open Go.RowKit
set_option linter.unusedVariables false
set_option maxHeartbeats 1000000

/-- Does the procedure call number i? -/
def called (p : List Stm) (i : Int) : Bool := p.any (fun s => decide (s.k = 8) && decide (s.y = i))

theorem called_snoc (p : List Stm) (k : Nat) (h : k < p.length) (i : Int) : called (p.take (k + 1)) i = (called (p.take k) i || (decide (p[k].k = 8) && decide (p[k].y = i))) := by
  rw [called, List.take_succ_eq_append_getElem h, List.any_append]
  simp [called]

theorem four_cellsC {w : World} {b : Nat} {x0 x1 x2 x3 : Value} {T : TypeId} (h : w.heap[b]? = some (.cells #[x0, x1, x2, x3] T (0, 0))) :
    w.cell? ⟨b, 0, none⟩ = some x0 ∧ w.cell? ⟨b, 1, none⟩ = some x1 ∧ w.cell? ⟨b, 2, none⟩ = some x2 ∧ w.cell? ⟨b, 3, none⟩ = some x3 ∧
      w.frozen? ⟨b, 0, none⟩ = false ∧ w.frozen? ⟨b, 1, none⟩ = false ∧ w.frozen? ⟨b, 2, none⟩ = false ∧ w.frozen? ⟨b, 3, none⟩ = false := by
  refine ⟨?_, ?_, ?_, ?_, ?_, ?_, ?_, ?_⟩ <;> simp [World.cell?, World.frozen?, h]

theorem callsOf_eq (p : List Stm) (hp : ∀ s ∈ p, stmtOk s.k s.x s.y = true) : callsOf p = nums [called p 0, called p 1, called p 2, called p 3] 0 := by
  have hput : ∀ (y : Int) (b0 b1 b2 b3 : Bool), 0 ≤ y → y ≤ 3 → ins y (nums [b0, b1, b2, b3] 0) = nums [b0 || decide (y = 0), b1 || decide (y = 1), b2 || decide (y = 2), b3 || decide (y = 3)] 0 := by
    intro y b0 b1 b2 b3 h0 h3
    have : y = 0 ∨ y = 1 ∨ y = 2 ∨ y = 3 := by omega
    rcases this with rfl | rfl | rfl | rfl <;> cases b0 <;> cases b1 <;> cases b2 <;> cases b3 <;> rfl
  have key : ∀ (p : List Stm), (∀ s ∈ p, stmtOk s.k s.x s.y = true) → ∀ (b0 b1 b2 b3 : Bool),
      p.foldl putCall (nums [b0, b1, b2, b3] 0) = nums [b0 || called p 0, b1 || called p 1, b2 || called p 2, b3 || called p 3] 0 := by
    intro p
    induction p with
    | nil => intro _ b0 b1 b2 b3; simp [called]
    | cons s p ih =>
      intro hs b0 b1 b2 b3
      have h1 := hs s (by simp)
      have ih := ih (fun t ht => hs t (by simp [ht]))
      obtain ⟨k, x, y⟩ := s
      simp only at h1
      by_cases h8 : k = 8
      · subst h8
        obtain ⟨y0, y3⟩ := stmtOk_call h1
        rw [List.foldl_cons, putCall, if_pos rfl, hput y b0 b1 b2 b3 y0 y3, ih]
        simp [called, Bool.or_assoc]
      · rw [List.foldl_cons, putCall, if_neg h8, ih]
        simp [called, h8]
  have := key p hp false false false false
  simpa [callsOf, nums] using this

end Go.Proofs.Ytmloeldgeegddaa

/-
  impl.calledBy; spec.Calls, impl.Calls.
-/
namespace Go.Proofs.Ytmloeldgeegddaa
open Go.RowKit
set_option linter.unusedVariables false
set_option maxHeartbeats 1000000

theorem four_set {w : World} {b : Nat} {p0 p1 p2 p3 : Value} {t : TypeId} (h : w.heap[b]? = some (.cells #[p0, p1, p2, p3] t (0, 0))) (x0 x1 x2 x3 : Value) :
    ((((w.setCell ⟨b, 0, none⟩ x0).setCell ⟨b, 1, none⟩ x1).setCell ⟨b, 2, none⟩ x2).setCell ⟨b, 3, none⟩ x3).heap[b]? = some (.cells #[x0, x1, x2, x3] t (0, 0)) := by
  have h1 := heap_setCell_same w b 0 _ t x0 h
  have h2 := heap_setCell_same _ b 1 _ t x1 h1
  have h3 := heap_setCell_same _ b 2 _ t x2 h2
  have h4 := heap_setCell_same _ b 3 _ t x3 h3
  simpa using h4

abbrev b4 (p : List Stm) : Array Value := #[.bool (called p 0), .bool (called p 1), .bool (called p 2), .bool (called p 3)]

theorem calledBy (p : List Stm) (v : Value) (w : World) (hl : p.length ≤ 12) (hok : ∀ s ∈ p, stmtOk s.k s.x s.y = true) (hv : Reads3 w v p) :
    Calls Try.prog 48 #[.agg #[v]] w fun e w' => e = .returned (.agg #[.bool (called p 0), .bool (called p 1), .bool (called p 2), .bool (called p 3)]) ∧ Below w.heap.size w w' := by
  obtain ⟨ao, cap, rfl, hc⟩ := hv
  have hq : (p.length : Int) ≤ 12 := by omega
  go_enter Try.func48, Try.ntmps48
  go_wp2
  have hl3 := laid3 (w := w) (a := .cells #[.slice ao p.length cap] 34) (b := .cells #[.bool false, .bool false, .bool false, .bool false] 62) (c := .cells #[.bool false, .bool false, .bool false, .bool false] 62) (Below.refl _ _)
  obtain ⟨_, K1, K2, K3, K4⟩ := hl3
  generalize ((w.alloc (.cells #[.slice ao p.length cap] 34)).alloc (.cells #[.bool false, .bool false, .bool false, .bool false] 62)).alloc (.cells #[.bool false, .bool false, .bool false, .bool false] 62) = W at *
  go_loopw [9] (fun i wr => ∃ (k : Nat), k ≤ p.length ∧ i = .int .i64 k ∧ wr.heap[w.heap.size + 1 + 1]? = some (.cells #[.bool (called (p.take k) 0), .bool (called (p.take k) 1), .bool (called (p.take k) 2), .bool (called (p.take k) 3)] 62 (0, 0)) ∧
      wr.heap[w.heap.size + 1]? = some (.cells #[.bool false, .bool false, .bool false, .bool false] 62 (0, 0)) ∧ w.heap.size + 3 ≤ wr.heap.size ∧ Below w.heap.size w wr) (fun i _ => p.length - (intOf i).toNat)
  case atStart => exact ⟨0, Nat.zero_le _, rfl, by simpa [called] using K2, K1, K3, K4⟩
  case round =>
    obtain ⟨k, hk, rfl, H2, H1, hsz, hb⟩ := hrel
    by_cases hlt : k < p.length
    · have hlt' : (k : Int) < (p.length : Int) := by omega
      obtain ⟨g, off, rfl, a0, a1, a2⟩ := hc k p[k] (by simp [hlt])
      have aB := World.block_lt_of_cell? w _ a0
      have a0 := (hb.cell aB).trans a0
      have a1 := (hb.cell (p := ⟨g, off + k * 3 + 1, none⟩) aB).trans a1
      have a2 := (hb.cell (p := ⟨g, off + k * 3 + 2, none⟩) aB).trans a2
      have hsk := hok p[k] (List.getElem_mem hlt)
      have hcs := called_snoc p k hlt
      clear hc hok K1 K2 K3 K4
      generalize p[k] = s at *
      obtain ⟨sk, sx, sy⟩ := s
      simp only at a0 a1 a2 hsk hcs
      obtain ⟨c0, c1, c2, c3, f0, f1, f2, f3⟩ := four_cellsC H2
      have HH1 : Hid (wr.heap[w.heap.size + 1]? = some (.cells #[.bool false, .bool false, .bool false, .bool false] 62 (0, 0))) := H1
      have HH2 : Hid _ := H2
      have HC : Hid _ := hcs
      clear H1 H2 hcs
      have hz2 : w.heap.size + 1 + 1 < wr.heap.size := by omega
      by_cases h8 : sk = 8
      · subst h8
        have hy := stmtOk_call hsk
        have hy' : sy = 0 ∨ sy = 1 ∨ sy = 2 ∨ sy = 3 := by omega
        clear hy hsk
        rcases hy' with rfl | rfl | rfl | rfl
        · have G2 : Hid _ := heap_setCell_same wr (w.heap.size + 1 + 1) 0 _ 62 (.bool true) HH2.out
          go_wp2
          go_roundw
          case rel =>
            refine ⟨k + 1, by omega, by go_num, ?_, ?_, by simp; omega, (hb.setCell (by simp; omega) _).alloc (by simp; exact hb.size) _⟩
            · rw [old_block (by simp; omega), G2.out, HC.out, HC.out, HC.out, HC.out]; simp
            · rw [old_block (by simp; omega), Below.heap_setCell _ _ _ _ (by simp)]; exact HH1.out
          case measure => simp [intOf]; omega
        · have G2 : Hid _ := heap_setCell_same wr (w.heap.size + 1 + 1) 1 _ 62 (.bool true) HH2.out
          go_wp2
          go_roundw
          case rel =>
            refine ⟨k + 1, by omega, by go_num, ?_, ?_, by simp; omega, (hb.setCell (by simp; omega) _).alloc (by simp; exact hb.size) _⟩
            · rw [old_block (by simp; omega), G2.out, HC.out, HC.out, HC.out, HC.out]; simp
            · rw [old_block (by simp; omega), Below.heap_setCell _ _ _ _ (by simp)]; exact HH1.out
          case measure => simp [intOf]; omega
        · have G2 : Hid _ := heap_setCell_same wr (w.heap.size + 1 + 1) 2 _ 62 (.bool true) HH2.out
          go_wp2
          go_roundw
          case rel =>
            refine ⟨k + 1, by omega, by go_num, ?_, ?_, by simp; omega, (hb.setCell (by simp; omega) _).alloc (by simp; exact hb.size) _⟩
            · rw [old_block (by simp; omega), G2.out, HC.out, HC.out, HC.out, HC.out]; simp
            · rw [old_block (by simp; omega), Below.heap_setCell _ _ _ _ (by simp)]; exact HH1.out
          case measure => simp [intOf]; omega
        · have G2 : Hid _ := heap_setCell_same wr (w.heap.size + 1 + 1) 3 _ 62 (.bool true) HH2.out
          go_wp2
          go_roundw
          case rel =>
            refine ⟨k + 1, by omega, by go_num, ?_, ?_, by simp; omega, (hb.setCell (by simp; omega) _).alloc (by simp; exact hb.size) _⟩
            · rw [old_block (by simp; omega), G2.out, HC.out, HC.out, HC.out, HC.out]; simp
            · rw [old_block (by simp; omega), Below.heap_setCell _ _ _ _ (by simp)]; exact HH1.out
          case measure => simp [intOf]; omega
      · have h8' : (sk == 8) = false := by simpa using h8
        clear hsk
        go_wp2
        go_roundw
        case rel =>
          refine ⟨k + 1, by omega, by go_num, ?_, ?_, by simp; omega, hb.alloc hb.size _⟩
          · rw [old_block (by omega), HH2.out, HC.out, HC.out, HC.out, HC.out]; simp [h8]
          · rw [old_block (by omega)]; exact HH1.out
        case measure => simp [intOf]; omega
    · have hkk : k = p.length := by omega
      subst hkk
      rw [List.take_length] at H2
      obtain ⟨c0, c1, c2, c3, f0, f1, f2, f3⟩ := four_cellsC H2
      obtain ⟨e0, e1, e2, e3, i0, i1, i2, i3⟩ := four_cellsC H1
      have G := four_set H1 (.bool (called p 0)) (.bool (called p 1)) (.bool (called p 2)) (.bool (called p 3))
      obtain ⟨d0, d1, d2, d3, _⟩ := four_cellsC G
      clear H1 H2 G K1 K2 K3 K4 hc
      go_wp2
      refine bodyPost_ret (v := .agg #[.bool (called p 0), .bool (called p 1), .bool (called p 2), .bool (called p 3)]) (by simp [results, Try.results48, go_sem, d0, d1, d2, d3]) rfl ?_
      exact ⟨rfl, (((hb.setCell (by simp) _).setCell (by simp) _).setCell (by simp) _).setCell (by simp) _⟩

/-- What both answer. -/
def callsAns (ps : List (List Stm)) (i : Int) : List Int := if hasB ps i then callsOf (ps.getD i.toNat []) else []

theorem hasB_true {ps : List (List Stm)} {i : Int} (h : hasB ps i = true) : programOk ps = true ∧ ∃ (j : Nat) (hj : j < ps.length), i = (j : Int) ∧ ps.getD i.toNat [] = ps[j] ∧ ps[j].length ≤ 12 ∧ ∀ s ∈ ps[j], stmtOk s.k s.x s.y = true := by
  unfold hasB wiB at h
  simp only [Bool.and_eq_true, decide_eq_true_eq] at h
  obtain ⟨h1, h2, h3⟩ := h
  have hj : i.toNat < ps.length := by omega
  obtain ⟨_, _, hpr⟩ := programOk_len h1
  have hm := hpr ps[i.toNat] (List.getElem_mem hj)
  exact ⟨h1, i.toNat, hj, by omega, by simp [List.getD, hj], procOk_len hm.1, fun s hs => procOk_stm hm.1 hs⟩

theorem callsAns_length (ps : List (List Stm)) (i : Int) : (callsAns ps i).length ≤ 12 := by
  unfold callsAns
  cases hok : hasB ps i
  · simp
  · rw [if_pos rfl]
    obtain ⟨_, j, hj, rfl, hg, h12, _⟩ := hasB_true hok
    rw [hg]
    have := callsOf_length ps[j]
    omega

theorem nilOwn (w : World) (base : Nat) : w.ownsRow base 2 1 (.slice none 0 0) ([] : List Int).length (ints []) := ⟨by simp [ints], .inl ⟨rfl, rfl⟩⟩

theorem specCalls (ps : List (List Stm)) (i : Int) (v : Value) (w : World) (hl : ps.length ≤ maxLen) (hp : ∀ p ∈ ps, p.length ≤ maxLen) (hv : ReadsP w v ps) :
    Calls Try.prog 15 #[.agg #[v], .int .i64 i] w fun e w' => ∃ u, e = .returned u ∧ w'.ownsRow w.heap.size 2 1 u (callsAns ps i).length (ints (callsAns ps i)) ∧ Below w.heap.size w w' := by
  have hb0 : Below w.heap.size w (w.alloc (.cells #[v] 26)) := by go_grown
  have he := l3In ps i v _ hl hp (readsP_below hv hb0)
  have H0 := heap_alloc_new w (.cells #[v] 26)
  have s0 : (w.alloc (.cells #[v] 26)).heap.size = w.heap.size + 1 := by simp
  unfold callsAns
  cases hok : hasB ps i
  · rw [hok] at he
    go_enter Try.func15, Try.ntmps15
    go_wp2_with (go_at_call 54; refine he.mono ?_; rintro e w2 ⟨rfl, b2⟩)
    go_ret
    have L2 := hb0.trans (b2.mono hb0.size)
    exact ⟨_, rfl, by simpa [ints] using own_mono (made0 w2) L2.size, L2.alloc L2.size _⟩
  · rw [hok] at he
    rw [if_pos rfl]
    obtain ⟨_, j, hj, rfl, hg, h12, hst⟩ := hasB_true hok
    rw [hg]
    clear hok
    go_enter Try.func15, Try.ntmps15
    go_wp2_with fail
    go_at_call 54
    refine he.mono ?_
    rintro e w2 ⟨rfl, b2⟩
    obtain ⟨c2, f2⟩ := one_cell ((b2.block w.heap.size (by omega)).trans H0)
    have L2 := hb0.trans (b2.mono hb0.size)
    have h3 := l3Calls ps j v w2 hj hl h12 (readsP_below hv L2)
    clear he
    go_wp2_with fail
    go_at_call 55
    refine h3.mono ?_
    rintro e w3 ⟨g, cap, rfl, own3, b3⟩
    go_wp2
    go_ret
    exact ⟨_, rfl, own_mono own3 L2.size, L2.trans (b3.mono L2.size)⟩

theorem implCalls (ps : List (List Stm)) (i : Int) (v : Value) (w : World) (hl : ps.length ≤ maxLen) (hp : ∀ p ∈ ps, p.length ≤ maxLen) (hv : ReadsP w v ps) :
    Calls Try.prog 9 #[.agg #[v], .int .i64 i] w fun e w' => ∃ u, e = .returned u ∧ w'.ownsRow w.heap.size 2 1 u (callsAns ps i).length (ints (callsAns ps i)) ∧ Below w.heap.size w w' := by
  have hb0 : Below w.heap.size w (w.alloc (.cells #[v] 26)) := by go_grown
  have he := hasProc ps i v _ hl hp (readsP_below hv hb0)
  have H0 := heap_alloc_new w (.cells #[v] 26)
  have s0 : (w.alloc (.cells #[v] 26)).heap.size = w.heap.size + 1 := by simp
  unfold callsAns
  cases hok : hasB ps i
  · rw [hok] at he
    go_enter Try.func9, Try.ntmps9
    go_wp2_with (go_at_call 47; refine he.mono ?_; rintro e w2 ⟨rfl, b2⟩)
    go_ret
    exact ⟨_, rfl, nilOwn _ _, hb0.trans (b2.mono hb0.size)⟩
  · rw [hok] at he
    rw [if_pos rfl]
    obtain ⟨_, j, hj, rfl, hg, h12, hst⟩ := hasB_true hok
    rw [hg, callsOf_eq ps[j] hst]
    obtain ⟨q0, e0⟩ : ∃ q, called ps[j] 0 = q := ⟨_, rfl⟩
    obtain ⟨q1, e1⟩ : ∃ q, called ps[j] 1 = q := ⟨_, rfl⟩
    obtain ⟨q2, e2⟩ : ∃ q, called ps[j] 2 = q := ⟨_, rfl⟩
    obtain ⟨q3, e3⟩ : ∃ q, called ps[j] 3 = q := ⟨_, rfl⟩
    have hcb := calledBy ps[j]
    rw [e0, e1, e2, e3] at hcb ⊢
    clear e0 e1 e2 e3
    clear hok
    go_enter Try.func9, Try.ntmps9
    go_wp2_with fail
    go_at_call 47
    refine he.mono ?_
    rintro e w2 ⟨rfl, b2⟩
    obtain ⟨c2, f2⟩ := one_cell ((b2.block w.heap.size (by omega)).trans H0)
    have L2 := hb0.trans (b2.mono hb0.size)
    obtain ⟨ao, cap, rfl, hc⟩ := readsP_below hv L2
    obtain ⟨g, off, u, rfl, p0, r0⟩ := hc j ps[j] (by simp [hj])
    have hj' : (j : Int) < (ps.length : Int) := by omega
    have h3 := hcb u w2 h12 hst r0
    clear hcb
    have hn := fun b0 b1 b2 b3 => numbersIn [b0, b1, b2, b3]
    clear he hc hg hst hv H0
    unfold maxLen at hl
    obtain ⟨ua, un, uc, rfl⟩ := reads3_slice r0
    go_wp2_with fail
    go_at_call 48
    refine h3.mono ?_
    rintro e w3 ⟨rfl, b3⟩
    clear h3
    have L3 := L2.trans (b3.mono L2.size)
    have rd : Reads (w3.alloc (.cells #[.bool q0, .bool q1, .bool q2, .bool q3] 62)) (.slice (some ⟨w3.heap.size, 0, none⟩) 4 4) ([q0, q1, q2, q3].map .bool) := by
      refine ⟨some ⟨w3.heap.size, 0, none⟩, 4, rfl, fun k x hx => ⟨w3.heap.size, 0, rfl, ?_⟩⟩
      obtain ⟨d0, d1, d2, d3, _⟩ := four_cellsC (heap_alloc_new w3 (.cells #[.bool q0, .bool q1, .bool q2, .bool q3] 62))
      have hk : k < 4 := (List.getElem?_eq_some_iff.1 hx).1
      have : k = 0 ∨ k = 1 ∨ k = 2 ∨ k = 3 := by omega
      rcases this with rfl | rfl | rfl | rfl <;> simp at hx <;> subst hx <;> assumption
    have b4 : Below w3.heap.size w3 (w3.alloc (.cells #[.bool q0, .bool q1, .bool q2, .bool q3] 62)) := by go_grown
    go_wp2_with fail
    go_at_call 49
    refine (hn q0 q1 q2 q3 _ _ (by simp) rd).mono ?_
    rintro e w5 ⟨u5, rfl, own5, b5⟩
    go_wp2
    go_ret
    have L4 := L3.trans (b4.mono L3.size)
    exact ⟨_, rfl, own_mono own5 L4.size, L4.trans (b5.mono L4.size)⟩

end Go.Proofs.Ytmloeldgeegddaa
