/-
  spec.Short.
-/
import Derived.Test.YtmgjefodbbjfmaaImplShort
import Derived.Test.YtmgjefodbbjfmaaSpecReached
namespace Go.Proofs.Ytmgjefodbbjfmaa
open Go.RowKit
set_option linter.unusedVariables false
set_option maxHeartbeats 2000000

/-- It is k steps away, and no nearer. -/
def IsD (ss : List Stm) (k j : Nat) : Prop := rk ss (-1) k j ∧ ∀ k', k' < k → ¬ rk ss (-1) k' j

theorem isD_pred {ss : List Stm} {k j : Nat} (h : IsD ss (k + 1) j) : ∃ r, IsD ss k r ∧ (j : Int) ∈ nx ss r := by
  obtain ⟨⟨hne, r, hr, hm⟩, hmin⟩ := h
  exact ⟨r, ⟨hr, fun k' hk' hr' => hmin (k' + 1) (by omega) ⟨hne, r, hr', hm⟩⟩, hm⟩

theorem isD_down {ss : List Stm} {m : Nat} : ∀ {k j : Nat}, IsD ss k j → m ≤ k → ∃ r, IsD ss m r
  | 0, j, h, hm => by obtain rfl : m = 0 := by omega
                      exact ⟨j, h⟩
  | k + 1, j, h, hm => by
    rcases Nat.lt_or_ge k m with h1 | h1
    · obtain rfl : m = k + 1 := by omega
      exact ⟨j, h⟩
    · obtain ⟨r, hr, _⟩ := isD_pred h
      exact isD_down hr h1

/-- The state ahead of row m. -/
structure RowInv (ss : List Stm) (i : Nat) (m : Nat) (seen row : List Int) : Prop where
  seenS : seen.Pairwise (· < ·)
  rowS : row.Pairwise (· < ·)
  seenM : ∀ x, x ∈ seen ↔ ∃ j : Nat, x = (j : Int) ∧ ∃ k, k < m ∧ rk ss (-1) k j
  rowM : ∀ x, x ∈ row ↔ ∃ j : Nat, x = (j : Int) ∧ IsD ss m j
  no : ∀ k, k < m → ¬ rk ss (-1) k i

theorem RowInv.start (ss : List Stm) (i : Nat) : RowInv ss i 0 [] [0] where
  seenS := by simp
  rowS := by simp
  seenM := fun x => by simp
  rowM := fun x => by
    constructor
    · intro h; simp at h; subst h; exact ⟨0, rfl, ⟨by omega, rfl⟩, fun k' h => by omega⟩
    · rintro ⟨j, rfl, ⟨_, rfl⟩, _⟩; simp
  no := fun k h => by omega

theorem RowInv.end_ {ss : List Stm} {i m : Nat} {seen : List Int} (h : RowInv ss i m seen []) : ¬ Rch ss (-1) i := by
  intro hr
  obtain ⟨k, hk, hmin⟩ := least_rk hr
  rcases Nat.lt_or_ge k m with h1 | h1
  · exact h.no k h1 hk
  · obtain ⟨r, hr⟩ := isD_down (m := m) ⟨hk, hmin⟩ h1
    have := (h.rowM r).2 ⟨r, rfl, hr⟩
    simp at this

theorem lenB {ss : List Stm} (hp : procOk ss = true) {xs : List Int} (hs : xs.Pairwise (· < ·)) (hm : ∀ x ∈ xs, ∃ j : Nat, x = (j : Int) ∧ j < ss.length) : xs.length ≤ 12 := by
  refine Nat.le_trans (sorted_length xs 0 ss.length hs (fun x hx => ?_)) (procOk_parts hp).2.1
  obtain ⟨j, rfl, h⟩ := hm x hx
  omega

/-- While the row is put into what was seen. -/
structure SeenInv (ss : List Stm) (i : Nat) (seen row : List Int) (c : Nat) (seen' : List Int) : Prop where
  sorted : seen'.Pairwise (· < ·)
  mem : ∀ x, x ∈ seen' ↔ x ∈ seen ∨ x ∈ row.take c
  no : (i : Int) ∉ row.take c
  len : seen.length + c ≤ seen'.length

theorem mem_take_succ {xs : List Int} {c : Nat} (h : c < xs.length) (x : Int) : x ∈ xs.take (c + 1) ↔ x ∈ xs.take c ∨ x = xs[c] := by
  rw [List.take_succ_eq_append_getElem h, List.mem_append]
  simp

theorem SeenInv.step {ss : List Stm} {i m : Nat} {seen row seen' : List Int} {c : Nat} (hR : RowInv ss i m seen row) (h : SeenInv ss i seen row c seen') (hc : c < row.length) (hne : row[c] ≠ (i : Int)) : SeenInv ss i seen row (c + 1) (ins row[c] seen') := by
  have hnot : row[c] ∉ seen' := by
    rw [h.mem]
    rintro (h1 | h1)
    · obtain ⟨j, e, k, hk, hr⟩ := (hR.seenM _).1 h1
      obtain ⟨j', e', hD⟩ := (hR.rowM _).1 (List.getElem_mem hc)
      obtain rfl : j = j' := by omega
      exact hD.2 k hk hr
    · have hs := hR.rowS
      rw [← List.take_append_drop c row, List.pairwise_append] at hs
      have := hs.2.2 _ h1 row[c] (List.mem_of_getElem? (i := 0) (by simp [hc]))
      omega
  refine ⟨ins_sorted _ _ h.sorted, fun x => ?_, ?_, ?_⟩
  · rw [mem_ins, h.mem, mem_take_succ hc]
    constructor
    · rintro (h1 | h1 | h1)
      · exact .inr (.inr h1)
      · exact .inl h1
      · exact .inr (.inl h1)
    · rintro (h1 | h1 | h1)
      · exact .inr (.inl h1)
      · exact .inr (.inr h1)
      · exact .inl h1
  · rw [mem_take_succ hc]
    rintro (h1 | h1)
    · exact h.no h1
    · exact hne h1.symm
  · rw [ins_len_new _ _ hnot]
    have := h.len
    omega

/-- While the next row is made: from the first c of the row, and the first d nexts of the one behind them. -/
structure NextInv (ss : List Stm) (row seen' : List Int) (c d : Nat) (next : List Int) : Prop where
  sorted : next.Pairwise (· < ·)
  mem : ∀ x, x ∈ next ↔ x ∉ seen' ∧ ((∃ r : Nat, (r : Int) ∈ row.take c ∧ x ∈ nx ss r) ∨ ∃ r : Nat, row[c]? = some (r : Int) ∧ x ∈ (nx ss r).take d)

theorem NextInv.start (ss : List Stm) (row seen' : List Int) : NextInv ss row seen' 0 0 [] := ⟨by simp, fun x => by simp⟩

theorem NextInv.put {ss : List Stm} {row seen' next : List Int} {c d r : Nat} (h : NextInv ss row seen' c d next) (hr : row[c]? = some (r : Int)) (hd : d < (nx ss r).length) (hn : (nx ss r)[d] ∉ seen') : NextInv ss row seen' c (d + 1) (ins (nx ss r)[d] next) := by
  refine ⟨ins_sorted _ _ h.sorted, fun x => ?_⟩
  rw [mem_ins, h.mem]
  constructor
  · rintro (rfl | ⟨h1, h2 | ⟨r', e, h2⟩⟩)
    · exact ⟨hn, .inr ⟨r, hr, (mem_take_succ hd _).2 (.inr rfl)⟩⟩
    · exact ⟨h1, .inl h2⟩
    · obtain rfl : r = r' := by rw [hr] at e; simp at e; omega
      exact ⟨h1, .inr ⟨r, hr, (mem_take_succ hd _).2 (.inl h2)⟩⟩
  · rintro ⟨h1, h2 | ⟨r', e, h2⟩⟩
    · exact .inr ⟨h1, .inl h2⟩
    · obtain rfl : r = r' := by rw [hr] at e; simp at e; omega
      rcases (mem_take_succ hd _).1 h2 with h3 | h3
      · exact .inr ⟨h1, .inr ⟨r, hr, h3⟩⟩
      · exact .inl h3

theorem NextInv.pass {ss : List Stm} {row seen' next : List Int} {c d r : Nat} (h : NextInv ss row seen' c d next) (hr : row[c]? = some (r : Int)) (hd : d < (nx ss r).length) (hn : (nx ss r)[d] ∈ seen') : NextInv ss row seen' c (d + 1) next := by
  refine ⟨h.sorted, fun x => ?_⟩
  rw [h.mem]
  constructor
  · rintro ⟨h1, h2 | ⟨r', e, h2⟩⟩
    · exact ⟨h1, .inl h2⟩
    · obtain rfl : r = r' := by rw [hr] at e; simp at e; omega
      exact ⟨h1, .inr ⟨r, hr, (mem_take_succ hd _).2 (.inl h2)⟩⟩
  · rintro ⟨h1, h2 | ⟨r', e, h2⟩⟩
    · exact ⟨h1, .inl h2⟩
    · obtain rfl : r = r' := by rw [hr] at e; simp at e; omega
      rcases (mem_take_succ hd _).1 h2 with h3 | h3
      · exact ⟨h1, .inr ⟨r, hr, h3⟩⟩
      · subst h3; exact absurd hn h1

theorem NextInv.turn {ss : List Stm} {row seen' next : List Int} {c r : Nat} (h : NextInv ss row seen' c (nx ss r).length next) (hr : row[c]? = some (r : Int)) : NextInv ss row seen' (c + 1) 0 next := by
  have hc : c < row.length := (List.getElem?_eq_some_iff.1 hr).1
  have he : row[c] = (r : Int) := (List.getElem?_eq_some_iff.1 hr).2
  refine ⟨h.sorted, fun x => ?_⟩
  rw [h.mem]
  constructor
  · rintro ⟨h1, ⟨r', h2, h3⟩ | ⟨r', e, h2⟩⟩
    · exact ⟨h1, .inl ⟨r', (mem_take_succ hc _).2 (.inl h2), h3⟩⟩
    · obtain rfl : r = r' := by rw [hr] at e; simp at e; omega
      exact ⟨h1, .inl ⟨r, (mem_take_succ hc _).2 (.inr he.symm), by simpa using h2⟩⟩
  · rintro ⟨h1, ⟨r', h2, h3⟩ | ⟨r', e, h2⟩⟩
    · rcases (mem_take_succ hc _).1 h2 with h4 | h4
      · exact ⟨h1, .inl ⟨r', h4, h3⟩⟩
      · obtain rfl : r' = r := by omega
        exact ⟨h1, .inr ⟨r', hr, by simpa using h3⟩⟩
    · simp at h2

theorem RowInv.next {ss : List Stm} {i m : Nat} {seen row seen' next : List Int} (hp : procOk ss = true) (hR : RowInv ss i m seen row) (hS : SeenInv ss i seen row row.length seen') (hN : NextInv ss row seen' row.length 0 next) : RowInv ss i (m + 1) seen' next := by
  have hsm : ∀ x, x ∈ seen' ↔ ∃ j : Nat, x = (j : Int) ∧ ∃ k, k < m + 1 ∧ rk ss (-1) k j := by
    intro x
    rw [hS.mem, List.take_length, hR.seenM, hR.rowM]
    constructor
    · rintro (⟨j, e, k, hk, hr⟩ | ⟨j, e, hr, _⟩)
      · exact ⟨j, e, k, by omega, hr⟩
      · exact ⟨j, e, m, by omega, hr⟩
    · rintro ⟨j, e, k, hk, hr⟩
      by_cases h : ∃ k, k < m ∧ rk ss (-1) k j
      · obtain ⟨k', h1, h2⟩ := h; exact .inl ⟨j, e, k', h1, h2⟩
      · right
        have : k = m := by
          rcases Nat.lt_or_ge k m with h1 | h1
          · exact absurd ⟨k, h1, hr⟩ h
          · omega
        subst this
        exact ⟨j, e, hr, fun k' h1 h2 => h ⟨k', h1, h2⟩⟩
  refine ⟨hS.sorted, hN.sorted, hsm, fun x => ?_, fun k hk hr => ?_⟩
  · rw [hN.mem, List.take_length]
    constructor
    · rintro ⟨h1, ⟨r, h2, h3⟩ | ⟨r, e, h2⟩⟩
      · obtain ⟨r', e, hD⟩ := (hR.rowM _).1 h2
        obtain rfl : r = r' := by omega
        obtain ⟨j, rfl, _⟩ := nx_in hp (rk_in hp hD.1) _ h3
        refine ⟨j, rfl, ⟨by omega, r, hD.1, h3⟩, fun k' hk' hr => h1 ((hsm _).2 ⟨j, rfl, k', by omega, hr⟩)⟩
      · simp at h2
    · rintro ⟨j, rfl, hD⟩
      obtain ⟨r, hr, hm⟩ := isD_pred hD
      refine ⟨fun h1 => ?_, .inl ⟨r, (hR.rowM _).2 ⟨r, rfl, hr⟩, hm⟩⟩
      obtain ⟨j', e, k, hk, hr'⟩ := (hsm _).1 h1
      obtain rfl : j = j' := by omega
      exact hD.2 k hk hr'
  · rcases Nat.lt_or_ge k m with h1 | h1
    · exact hR.no k h1 hr
    · obtain rfl : k = m := by omega
      have := hS.no
      rw [List.take_length] at this
      exact this ((hR.rowM _).2 ⟨i, rfl, hr, hR.no⟩)

theorem rowR {ss : List Stm} {i m : Nat} {seen row : List Int} (hp : procOk ss = true) (h : RowInv ss i m seen row) : (∀ x ∈ row, ∃ j : Nat, x = (j : Int) ∧ j < ss.length) ∧ (∀ x ∈ seen, ∃ j : Nat, x = (j : Int) ∧ j < ss.length) := by
  refine ⟨fun x hx => ?_, fun x hx => ?_⟩
  · obtain ⟨j, e, hD⟩ := (h.rowM x).1 hx
    exact ⟨j, e, rk_in hp hD.1⟩
  · obtain ⟨j, e, k, _, hr⟩ := (h.seenM x).1 hx
    exact ⟨j, e, rk_in hp hr⟩

theorem specShort (ss : List Stm) (i : Int) (A : Int) (hA : ShortAns ss i A) (v : Value) (w : World) (hl : ss.length ≤ maxLen) (hv : Reads3 w v ss) :
    Calls Try.prog 22 #[.agg #[v], .int .i64 i] w fun e w' => e = .returned (.int .i64 A) ∧ Below w.heap.size w w' := by
  have hb0 : Below w.heap.size w (w.alloc (.cells #[v] 30)) := by go_grown
  have he := l4In ss i v _ hl (reads3_below hv hb0)
  have H0 := heap_alloc_new w (.cells #[v] 30)
  have s0 : (w.alloc (.cells #[v] 30)).heap.size = w.heap.size + 1 := by simp
  cases hok : hasS ss i
  · rw [hok] at he
    obtain rfl := hA.1 hok
    go_enter Try.func22, Try.ntmps22
    go_wp2_with (go_at_call 33; refine he.mono ?_; rintro e w2 ⟨rfl, b2⟩)
    go_ret
    exact ⟨rfl, hb0.trans (b2.mono hb0.size)⟩
  · rw [hok] at he
    obtain ⟨hp, j, rfl, hjl⟩ := hasS_true hok
    obtain ⟨hA1, hA2⟩ := hA.2 hok j rfl
    have h12 := (procOk_parts hp).2.1
    clear hok
    go_enter Try.func22, Try.ntmps22
    go_wp2_with fail
    go_at_call 33
    refine he.mono ?_
    rintro e w2 ⟨rfl, b2⟩
    have s2 := b2.size
    have L2 := hb0.trans (b2.mono hb0.size)
    have B2 := (b2.block w.heap.size (by omega)).trans H0
    clear he
    have m1 := made0 w2
    have m2 : ((w2.alloc (.cells #[] 2)).alloc (.cells #[.int .i64 0] 2)).ownsRow w2.heap.size 2 1 (.slice (some ⟨w2.heap.size + 1, 0, none⟩) 1 1) 1 (ints [0]) := made1_at (by simp) (by omega) 0
    have L4 : Below w.heap.size w ((w2.alloc (.cells #[] 2)).alloc (.cells #[.int .i64 0] 2)) := (L2.alloc L2.size _).alloc (by simp; omega) _
    have B4 : ((w2.alloc (.cells #[] 2)).alloc (.cells #[.int .i64 0] 2)).heap[w.heap.size]? = some (.cells #[v] 30 (0, 0)) := by
      rw [old_block (by simp; omega), old_block (by omega)]; exact B2
    go_wp2_with fail
    go_loopw [5, 6, 7] (fun sv rv nv wr => ∃ (m : Nat) (seen row : List Int) (gs cs gr cr : Nat), nv = .int .i64 ((m : Int) + 1) ∧ sv = .slice (some ⟨gs, 0, none⟩) seen.length cs ∧ rv = .slice (some ⟨gr, 0, none⟩) row.length cr ∧
        wr.ownsRow w.heap.size 2 1 (.slice (some ⟨gs, 0, none⟩) seen.length cs) seen.length (ints seen) ∧ wr.ownsRow w.heap.size 2 1 (.slice (some ⟨gr, 0, none⟩) row.length cr) row.length (ints row) ∧
        RowInv ss j m seen row ∧ m ≤ seen.length ∧ Below w.heap.size w wr ∧ wr.heap[w.heap.size]? = some (.cells #[v] 30 (0, 0))) (fun sv _ _ _ => 13 - lenOf sv)
    case atStart => exact ⟨0, [], [0], w2.heap.size, 0, w2.heap.size + 1, 1, rfl, rfl, rfl, own_mono (m1.alloc _) L2.size, own_mono m2 L2.size, RowInv.start ss j, Nat.zero_le _, L4, B4⟩
    case round =>
      obtain ⟨wa, hren⟩ : ∃ x, x = wr := ⟨_, rfl⟩
      subst hren
      obtain ⟨m, seen, row, gs, cs, gr, cr, rfl, rfl, rfl, osn, orw, hR, hms, hL, hX⟩ := hrel
      clear m1 m2 L4 B4 B2
      obtain ⟨hrr, hsr⟩ := rowR hp hR
      have hrl := lenB hp hR.rowS hrr
      have hsl := lenB hp hR.seenS hsr
      have hbx : w.heap.size < wa.heap.size := (Array.getElem?_eq_some_iff.1 hX).1
      by_cases hr0 : row.length = 0
      · have hrn : row = [] := List.eq_nil_of_length_eq_zero hr0
        subst hrn
        obtain rfl := hA1 hR.end_
        go_wp2
        go_ret
        exact ⟨rfl, hL⟩
      have hr0' : (0 : Int) < (row.length : Int) := by omega
      have hr0n : 0 < row.length := by omega
      have L5 : Below w.heap.size w (wa.alloc (.cells #[] 2)) := hL.alloc hL.size _
      have mn := own_mono (made0 wa) hL.size
      have b5 : Below wa.heap.size wa (wa.alloc (.cells #[] 2)) := by go_grown
      have osn5 := own_kept osn b5
      have orw5 := own_kept orw b5
      have X5 := (b5.block w.heap.size hbx).trans hX
      go_wp2_with fail
      go_loopw [5, 9] (fun sv iv wx => ∃ (c : Nat) (seen' : List Int) (gs cs : Nat), iv = .int .i64 c ∧ c ≤ row.length ∧ sv = .slice (some ⟨gs, 0, none⟩) seen'.length cs ∧ wx.ownsRow w.heap.size 2 1 (.slice (some ⟨gs, 0, none⟩) seen'.length cs) seen'.length (ints seen') ∧
          SeenInv ss j seen row c seen' ∧ Below (wa.alloc (.cells #[] 2)).heap.size (wa.alloc (.cells #[] 2)) wx) (fun _ iv _ => row.length - (intOf iv).toNat)
      case atStart => exact ⟨0, seen, gs, cs, rfl, Nat.zero_le _, rfl, osn5, ⟨hR.seenS, by simp, by simp, by simp⟩, Below.refl _ _⟩
      case round =>
        obtain ⟨wx, hren⟩ : ∃ x, x = wr := ⟨_, rfl⟩
        subst hren
        obtain ⟨c, seen', gs', cs', rfl, hcl, rfl, os', hS, hb'⟩ := hrel
        have z5 : (wa.alloc (.cells #[] 2)).heap.size = wa.heap.size + 1 := by simp
        have szx := hb'.size
        have or' := own_kept orw5 hb'
        have mn' := own_kept mn hb'
        have L' : Below w.heap.size w wx := L5.trans (hb'.mono L5.size)
        have X' := (hb'.block w.heap.size (by omega)).trans X5
        have hsl' : seen'.length ≤ 12 := lenB hp hS.sorted (fun x hx => by
          rcases (hS.mem x).1 hx with h | h
          · exact hsr x h
          · exact hrr x (List.mem_of_mem_take h))
        by_cases hc : c < row.length
        · have hc' : (c : Int) < (row.length : Int) := by omega
          have hcell : wx.cell? ⟨gr, c, none⟩ = some (.int .i64 row[c]) := by
            rw [or'.cellAt c (by omega)]; simp [ints, hc]
          by_cases hx : row[c] = (j : Int)
          · obtain ⟨j', e, hD⟩ := (hR.rowM _).1 (List.getElem_mem hc)
            obtain rfl : j = j' := by omega
            obtain rfl := hA2 m hD.1 hD.2
            have hx' : (row[c] == (j : Int)) = true := by simpa using hx
            clear hx e
            generalize row[c] = y at *
            go_wp2
            go_ret
            exact ⟨rfl, L'⟩
          · have hx' : (row[c] == (j : Int)) = false := by simpa using hx
            have hst : Hid (SeenInv ss j seen row (c + 1) (ins row[c] seen')) := hS.step hR hc hx
            have hput := l1Put seen' row[c] gs' cs' w.heap.size wx (by omega) L'.size os'
            clear hx hS
            generalize row[c] = y at *
            go_wp2_with fail
            go_at_call 41
            refine hput.mono ?_
            rintro e w7 ⟨g7, c7, rfl, own7, b7⟩
            clear hput
            go_wp2
            go_roundw
            case rel => exact ⟨c + 1, _, g7, c7, by go_num, by omega, rfl, own7, hst.out, hb'.trans (b7.mono szx)⟩
            case measure => simp [intOf]; omega
        · obtain rfl : c = row.length := by omega
          have hlen := hS.len
          go_wp2_with fail
          go_loopw [8, 10] (fun xv iv wy => ∃ (c : Nat) (next : List Int) (gn cn : Nat), iv = .int .i64 c ∧ c ≤ row.length ∧ xv = .slice (some ⟨gn, 0, none⟩) next.length cn ∧ wy.ownsRow w.heap.size 2 1 (.slice (some ⟨gn, 0, none⟩) next.length cn) next.length (ints next) ∧
              NextInv ss row seen' c 0 next ∧ Below wx.heap.size wx wy) (fun _ iv _ => row.length - (intOf iv).toNat)
          case atStart => exact ⟨0, [], wa.heap.size, 0, rfl, Nat.zero_le _, rfl, by simpa [ints] using mn', NextInv.start ss row seen', Below.refl _ _⟩
          case round =>
            obtain ⟨wy, hren⟩ : ∃ x, x = wr := ⟨_, rfl⟩
            subst hren
            obtain ⟨c, next, gn, cn, rfl, hcl, rfl, on, hN, hby⟩ := hrel
            have szy := hby.size
            have or'' := own_kept or' hby
            have os'' := own_kept os' hby
            have L'' : Below w.heap.size w wy := L'.trans (hby.mono L'.size)
            have X'' := (hby.block w.heap.size (by omega)).trans X'
            have hnR : ∀ {d : Nat} {nn : List Int}, NextInv ss row seen' c d nn → nn.length ≤ 12 := fun {d nn} h => lenB hp h.sorted (fun x hx => by
              rcases ((h.mem x).1 hx).2 with ⟨r, h1, h2⟩ | ⟨r, h1, h2⟩
              · obtain ⟨j', e, h3⟩ := hrr r (List.mem_of_mem_take h1)
                exact nx_in hp (by omega) x h2
              · obtain ⟨j', e, h3⟩ := hrr r (List.mem_of_getElem? h1)
                exact nx_in hp (by omega) x (List.mem_of_mem_take h2))
            by_cases hc : c < row.length
            · have hc' : (c : Int) < (row.length : Int) := by omega
              have hc0 : (0 : Int) ≤ (c : Int) := by omega
              obtain ⟨r, hr, hrlt⟩ := hrr row[c] (List.getElem_mem hc)
              have hrc : row[c]? = some (r : Int) := by rw [List.getElem?_eq_getElem hc, hr]
              have hcell : wy.cell? ⟨gr, c, none⟩ = some (.int .i64 r) := by
                rw [or''.cellAt c (by omega)]; simp [ints, hc, hr]
              obtain ⟨cx, fx⟩ := one_cell X''
              have hn : ∀ W, Below wy.heap.size wy W → _ := fun W hW => l4Next ss r v W hp hrlt (reads3_below (reads3_below hv L'') hW)
              rw [← nx_eq hrlt] at hn
              have hnl : (nx ss r).length ≤ 2 := nextsS_length _ _
              have zz1 : w.heap.size < wy.heap.size := by omega
              have zz2 : gr < wy.heap.size := (or''.lt gr rfl).2
              have HR : Hid _ := hR
              have HN : Hid (NextInv ss row seen' c 0 next) := hN
              clear hR hN
              go_wp2_with fail
              go_region_with (first
                | (go_at_call 34; refine (hn _ (by go_grown)).mono ?_; rintro e w8 ⟨g8, c8, rfl, own8, b8⟩; have M8 : Below wy.heap.size wy w8 := Below.trans (by go_grown) b8; obtain ⟨hc8, hf8⟩ := bcell M8))
              all_goals
                have on8 := own_kept on M8
                have os8 := own_kept os'' M8
                have or8 := own_kept or'' M8
                have L8 : Below w.heap.size w w8 := L''.trans (M8.mono L''.size)
                have X8 := (M8.block w.heap.size (by omega)).trans X''
                have ol8 : w8.ownsRow wy.heap.size 2 1 (.slice (some ⟨g8, 0, none⟩) (nx ss r).length c8) (nx ss r).length (ints (nx ss r)) := own_mono own8 (by simp)
                have HS : Hid _ := hS
                clear hc8 hf8 cx fx hcell on os'' or'' hS b8 own8
                go_wp2_with fail
                go_loopw [8, 12] (fun xv kv wz => ∃ (d : Nat) (nn : List Int) (gn cn : Nat), kv = .int .i64 d ∧ d ≤ (nx ss r).length ∧ xv = .slice (some ⟨gn, 0, none⟩) nn.length cn ∧ wz.ownsRow w.heap.size 2 1 (.slice (some ⟨gn, 0, none⟩) nn.length cn) nn.length (ints nn) ∧
                    NextInv ss row seen' c d nn ∧ Below w8.heap.size w8 wz) (fun _ kv _ => (nx ss r).length - (intOf kv).toNat)
                case atStart => exact ⟨0, next, gn, cn, rfl, Nat.zero_le _, rfl, on8, HN.out, Below.refl _ _⟩
                case round =>
                  obtain ⟨wz, hren⟩ : ∃ x, x = wr := ⟨_, rfl⟩
                  subst hren
                  obtain ⟨d, nn, gn', cn', rfl, hdl, rfl, on', hN', hbz⟩ := hrel
                  have szz := hbz.size
                  have hnn := hnR hN'
                  have olz := own_kept ol8 hbz
                  have osz := own_kept os8 hbz
                  have Lz : Below w.heap.size w wz := L8.trans (hbz.mono L8.size)
                  by_cases hd : d < (nx ss r).length
                  · have hd' : (d : Int) < ((nx ss r).length : Int) := by omega
                    have hcell : wz.cell? ⟨g8, d, none⟩ = some (.int .i64 (nx ss r)[d]) := by
                      rw [olz.cellAt d (by omega)]; simp [ints, hd]
                    have hh := l1Has seen' (nx ss r)[d] (.slice (some ⟨gs', 0, none⟩) seen'.length cs') wz (by unfold maxLen; omega) (reads_own osz)
                    rw [hasI_mem] at hh
                    by_cases hin : (nx ss r)[d] ∈ seen'
                    · rw [decide_eq_true hin] at hh
                      have hst : Hid (NextInv ss row seen' c (d + 1) nn) := hN'.pass hrc hd hin
                      clear hin hN'
                      generalize (nx ss r)[d] = y at *
                      go_wp2_with fail
                      go_at_call 40
                      refine hh.mono ?_
                      rintro e wq ⟨rfl, bq⟩
                      clear hh
                      have onq := own_kept on' bq
                      go_wp2
                      go_roundw
                      case rel => exact ⟨d + 1, nn, gn', cn', by go_num, by omega, rfl, onq, hst.out, hbz.trans (bq.mono szz)⟩
                      case measure => simp [intOf]; omega
                    · rw [decide_eq_false hin] at hh
                      have hst : Hid (NextInv ss row seen' c (d + 1) (ins (nx ss r)[d] nn)) := hN'.put hrc hd hin
                      clear hin hN'
                      generalize (nx ss r)[d] = y at *
                      go_wp2_with fail
                      go_at_call 40
                      refine hh.mono ?_
                      rintro e wq ⟨rfl, bq⟩
                      clear hh
                      have sq := bq.size
                      have onq := own_kept on' bq
                      have hcq := (bq.cell (World.block_lt_of_cell? wz _ hcell)).trans hcell
                      have hput := l1Put nn y gn' cn' w.heap.size wq (by omega) (by have := Lz.size; omega) onq
                      clear hcell
                      go_wp2_with fail
                      go_at_call 41
                      refine hput.mono ?_
                      rintro e wp ⟨gp, cp, rfl, ownp, bp⟩
                      clear hput
                      go_wp2
                      go_roundw
                      case rel => exact ⟨d + 1, _, gp, cp, by go_num, by omega, rfl, ownp, hst.out, (hbz.trans (bq.mono szz)).trans (bp.mono (by omega))⟩
                      case measure => simp [intOf]; omega
                  · obtain rfl : d = (nx ss r).length := by omega
                    have hst : Hid (NextInv ss row seen' (c + 1) 0 nn) := hN'.turn hrc
                    have hd' : ¬ ((nx ss r).length : Int) < ((nx ss r).length : Int) := by omega
                    have M8s := M8.size
                    clear hN'
                    go_wp2
                    go_roundw
                    case rel => exact ⟨c + 1, nn, gn', cn', by go_num, by omega, rfl, on', hst.out, hby.trans ((M8.mono szy).trans (hbz.mono (by omega)))⟩
                    case measure => simp [intOf]; omega
            · obtain rfl : c = row.length := by omega
              have hnext : Hid (RowInv ss j (m + 1) seen' next) := hR.next hp hS hN
              clear hR hN hS
              go_wp2
              go_roundw
              case rel => exact ⟨m + 1, seen', next, gs', cs', gn, cn, by go_num, rfl, rfl, os'', on, hnext.out, by omega, L'', X''⟩
              case measure => simp only [lenOf]; omega

end Go.Proofs.Ytmgjefodbbjfmaa
