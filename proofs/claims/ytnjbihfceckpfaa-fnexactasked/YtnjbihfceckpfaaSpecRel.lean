/-
  Chapter 6, the specification's side: l6Image, Image, l6Compose, l6Join, Compose, Join, Within, Unit.
-/
import Derived.Test.YtnjbihfceckpfaaG03RelM
import Derived.Deep.AppendLies
import Derived.Deep.RegionHeld3
namespace Go.Proofs.Ytnjbihfceckpfaa
open Go.RowKit
set_option linter.unusedVariables false
set_option maxHeartbeats 1000000

theorem l6Image (rs : List Int) (s : Int) (v : Value) (w : World) (hr : Smalls rs) (hs : Small s) (hv : Reads w v (ints rs)) :
    Calls Try.prog 70 #[v, .int .i64 s] w fun e w' => e = .returned (.int .i64 (img rs s)) ∧ Below w.heap.size w w' := by
  obtain ⟨ao, cap, rfl, hc⟩ := hv
  have h7 := hr.1
  simp only [ints_length, h7]
  go_enter Try.func70, Try.ntmps70
  go_wp2
  go_loopw [5, 6] (fun n i wr => ∃ k : Nat, k ≤ 7 ∧ i = .int .i64 k ∧ n = .int .i64 (imgK rs s k) ∧ w = wr) (fun _ i _ => 7 - (intOf i).toNat)
  case atStart => exact ⟨0, by omega, rfl, rfl, rfl⟩
  case round =>
    obtain ⟨k, hk, rfl, rfl, rfl⟩ := hrel
    by_cases hlt : k < 7
    · have hlt' : (k : Int) < 7 := by omega
      obtain ⟨g, off, rfl, hg⟩ := hc k (.int .i64 (rs.getD k 0)) (by simp [ints, List.getD, h7, hlt])
      have hb := bit_tmod k hs
      have HI : Hid (imgK rs s (k + 1) = if bit s k = true then lor (imgK rs s k) (rs.getD k 0) else imgK rs s k) := by exact rfl
      clear hc
      generalize rs.getD k 0 = y at *
      generalize imgK rs s k = z at *
      by_cases hbit : bit s k = true
      · rw [if_pos hbit] at hb
        have HI2 := HI.out
        rw [if_pos hbit] at HI2
        have HI3 : Hid _ := HI2
        clear HI HI2
        go_wp2
        go_roundw
        case rel => exact ⟨k + 1, by omega, by go_num, by rw [HI3.out]; rfl, trivial⟩
        case measure => simp [intOf]; omega
      · rw [if_neg hbit] at hb
        have HI2 := HI.out
        rw [if_neg hbit] at HI2
        have HI3 : Hid _ := HI2
        clear HI HI2
        go_wp2
        go_roundw
        case rel => exact ⟨k + 1, by omega, by go_num, by rw [HI3.out], trivial⟩
        case measure => simp [intOf]; omega
    · have hkk : k = 7 := by omega
      subst hkk
      go_wp2
      go_ret
      exact ⟨rfl, Below.refl _ _⟩


theorem comp_take {xs ys : List Int} {k : Nat} (h : k < xs.length) : (comp xs ys).take (k + 1) = (comp xs ys).take k ++ [img ys (xs.getD k 0)] := by
  rw [List.take_add_one]
  simp [comp, List.getD, h]

theorem joi_take {xs ys : List Int} {k : Nat} (h : k < xs.length) (h' : k < ys.length) : (joi xs ys).take (k + 1) = (joi xs ys).take k ++ [lor (xs.getD k 0) (ys.getD k 0)] := by
  rw [List.take_add_one]
  simp [joi, List.getD, h, h', List.getElem?_zipWith]

theorem ints_append (xs ys : List Int) : ints (xs ++ ys) = ints xs ++ ints ys := by simp [ints]

theorem getD_int {w : World} {ao : Option Addr} {xs : List Int} (hc : ∀ (j : Nat) (x : Value), (ints xs)[j]? = some x → ∃ g off, ao = some ⟨g, off, none⟩ ∧ w.cell? ⟨g, off + j, none⟩ = some x) {k : Nat} (h : k < xs.length) :
    ∃ g off, ao = some ⟨g, off, none⟩ ∧ w.cell? ⟨g, off + k, none⟩ = some (.int .i64 (xs.getD k 0)) := hc k _ (by simp [ints, List.getD, h])

theorem l6Compose (xs ys : List Int) (v u : Value) (w : World) (hx : Smalls xs) (hy : Smalls ys) (hv : Reads w v (ints xs)) (hu : Reads w u (ints ys)) :
    Calls Try.prog 98 #[v, u] w fun e w' => ∃ a, e = .returned a ∧ w'.ownsRow w.heap.size 2 1 a (comp xs ys).length (ints (comp xs ys)) ∧ Below w.heap.size w w' := by
  obtain ⟨i0, hi, hz0, hz1, hz2⟩ := info_parts infoInt
  obtain ⟨ao, cap, rfl, hc⟩ := hv
  have h7 := hx.1
  have hcl : (comp xs ys).length = 7 := by simp [comp, h7]
  simp only [ints_length, h7]
  go_enter Try.func98, Try.ntmps98
  go_wp2
  have B0 : Below w.heap.size w (w.alloc (.cells #[] 2)) := by go_grown
  go_loopw [5, 6] (fun o i wr => ∃ k : Nat, k ≤ 7 ∧ i = .int .i64 k ∧ wr.ownsRow w.heap.size 2 1 o ((comp xs ys).take k).length (ints ((comp xs ys).take k)) ∧ Below w.heap.size w wr) (fun _ i _ => 7 - (intOf i).toNat)
  case atStart => exact ⟨0, by omega, rfl, by simpa [ints] using made0 w, B0⟩
  case round =>
    obtain ⟨k, hk, rfl, hown, hb⟩ := hrel
    by_cases hlt : k < 7
    · have hlt' : (k : Int) < 7 := by omega
      obtain ⟨g, off, rfl, hg⟩ := getD_int hc (k := k) (by omega)
      have hg := (hb.cell (World.block_lt_of_cell? w _ hg)).trans hg
      have HN : Hid _ := comp_take (xs := xs) (ys := ys) (k := k) (by omega)
      have hsm := hx.getD k
      have him := l6Image ys (xs.getD k 0) u
      generalize xs.getD k 0 = x at *
      have hll : ((comp xs ys).take k).length ≤ 7 := by rw [List.length_take]; omega
      clear hc
      go_wp2_with fail
      go_at_call 70
      refine (him wr hy hsm (reads_below hu hb)).mono ?_
      rintro e w1 ⟨rfl, b1⟩
      have L1 := hb.trans (b1.mono hb.size)
      have s1 := b1.size
      have hb0 := hb.size
      have hown := own_kept hown b1
      have B1 : Hid (Below w.heap.size w (w1.alloc (.cells #[.int .i64 (img ys x)] 2))) := L1.alloc (by omega) _
      have HSZ : Hid (w.heap.size ≤ (w1.alloc (.cells #[.int .i64 (img ys x)] 2)).heap.size) := by exact B1.out.size
      go_wp2_with (first
        | (at_builtin; refine wpList_append_own _ rfl (.tmp 12) (.tmp 19) 26 rfl w.heap.size 2 i0 (.int .i64 0) 1 8 Try.underlying26 hi hz0 hz1 hz2 rfl (by decide) _ _ _ rfl (hown.alloc _) ⟨w1.heap.size, 0, none⟩ 1 _ [.int .i64 (img ys x)] rfl rfl (cell_one w1 _) (ints_oneCell [img ys x]) (by unfold maxLen; omega) (by omega) HSZ.out ?_; intro v2 w2 own2 grow2 _; have L2 := below_app B1.out grow2 (fun q hq => (hown.lt q hq).1))
        | go_in)
      go_roundw
      case rel =>
        refine ⟨k + 1, by omega, by go_num, ?_, L2⟩
        rw [HN.out, ints_append, List.length_append]
        exact own2
      case measure => simp [intOf]; omega
    · have hkk : k = 7 := by omega
      subst hkk
      rw [← hcl, List.take_length] at hown
      go_wp2
      go_ret
      exact ⟨_, rfl, hown, hb⟩

theorem l6Join (xs ys : List Int) (v u : Value) (w : World) (hx : Smalls xs) (hy : Smalls ys) (hv : Reads w v (ints xs)) (hu : Reads w u (ints ys)) :
    Calls Try.prog 101 #[v, u] w fun e w' => ∃ a, e = .returned a ∧ w'.ownsRow w.heap.size 2 1 a (joi xs ys).length (ints (joi xs ys)) ∧ Below w.heap.size w w' := by
  obtain ⟨i0, hi, hz0, hz1, hz2⟩ := info_parts infoInt
  obtain ⟨ao, cap, rfl, hc⟩ := hv
  obtain ⟨bo, cap', rfl, hd⟩ := hu
  have h7 := hx.1
  have h7' := hy.1
  have hcl : (joi xs ys).length = 7 := by simp [joi, h7, hy.1]
  simp only [ints_length, h7, h7']
  go_enter Try.func101, Try.ntmps101
  go_wp2
  have B0 : Below w.heap.size w (w.alloc (.cells #[] 2)) := by go_grown
  go_loopw [5, 6] (fun o i wr => ∃ k : Nat, k ≤ 7 ∧ i = .int .i64 k ∧ wr.ownsRow w.heap.size 2 1 o k (ints ((joi xs ys).take k)) ∧ Below w.heap.size w wr) (fun _ i _ => 7 - (intOf i).toNat)
  case atStart => exact ⟨0, by omega, rfl, by simpa [ints] using made0 w, B0⟩
  case round =>
    obtain ⟨k, hk, rfl, hown, hb⟩ := hrel
    by_cases hlt : k < 7
    · have hlt' : (k : Int) < 7 := by omega
      obtain ⟨g, off, rfl, hg⟩ := getD_int hc (k := k) (by omega)
      obtain ⟨g', off', rfl, hg'⟩ := getD_int hd (k := k) (by omega)
      have hga : ∀ W, Below w.heap.size w W → W.cell? ⟨g, off + k, none⟩ = some (.int .i64 (xs.getD k 0)) ∧ W.cell? ⟨g', off' + k, none⟩ = some (.int .i64 (ys.getD k 0)) := fun W hW => ⟨(hW.cell (World.block_lt_of_cell? w _ hg)).trans hg, (hW.cell (World.block_lt_of_cell? w _ hg')).trans hg'⟩
      clear hg hg'
      have HN : Hid _ := joi_take (xs := xs) (ys := ys) (k := k) (by omega) (by omega)
      generalize xs.getD k 0 = x at *
      generalize ys.getD k 0 = y at *
      clear hc hd
      have hb0 := hb.size
      have B1 : Below w.heap.size w (wr.alloc (.cells #[.int .i64 (lor x y)] 2)) := hb.alloc (by omega) _
      have q1 := hga _ hb
      have q2 := hga _ B1
      have HSZ : w.heap.size ≤ (wr.alloc (.cells #[.int .i64 (lor x y)] 2)).heap.size := by exact B1.size
      have HB1 : Hid _ := B1
      have HQ : Hid _ := q2
      have HGA : Hid _ := hga
      have HBK : Hid _ := heap_alloc_new wr (.cells #[.int .i64 (lor x y)] 2)
      have hone := ints_oneCell [lor x y]
      have hlb : (k + 1) * 8 ≤ 140737488355328 := by omega
      have hlm : k + 1 ≤ maxLen := by unfold maxLen; omega
      clear B1 q2 HSZ hga
      go_wp2_with fail
      go_region_held3 (fun w' => w'.cell? ⟨g, off + k, none⟩ = some (.int .i64 x) ∧ w'.cell? ⟨g', off' + k, none⟩ = some (.int .i64 y)) (first | exact q1 | exact HQ.out | exact q3) (first
        | (refine step_append_lies _ rfl (.tmp 12) (.tmp 22) 26 rfl w.heap.size 2 i0 (.int .i64 0) 1 8 Try.underlying26 hi hz0 hz1 hz2 rfl (by decide) _ _ _ rfl (own_kept hown (by go_grown)) ⟨wr.heap.size, 0, none⟩ 1 1 [.int .i64 (lor x y)] rfl rfl (World.news_of_block HBK.out) hone (by omega) hlm hlb (by simp; omega) _ rfl ?_; intro g2 cap2 w2 own2 grow2 hat2 hlt2; have L2 : Below w.heap.size w w2 := below_app (hb.trans (Below.mono (by go_grown) hb0)) grow2 (fun q hq => (hown.lt q hq).1); have q3 := HGA.out _ L2))
      clear q1 q3 HQ HBK HGA HB1
      go_wp2
      go_roundw
      case rel =>
        refine ⟨k + 1, by omega, by go_num, ?_, L2⟩
        rw [HN.out, ints_append]
        exact own2
      case measure => simp [intOf]; omega
    · have hkk : k = 7 := by omega
      subst hkk
      rw [show (joi xs ys).take 7 = joi xs ys from by rw [← hcl, List.take_length]] at hown
      go_wp2
      go_ret
      exact ⟨_, rfl, by rw [hcl]; exact hown, hb⟩



theorem list_ext_take {xs ys : List Int} {k : Nat} (hk : k < xs.length) (hl : xs.length = ys.length) (h : xs.take k = ys.take k) (hx : xs.getD k 0 = ys.getD k 0) : xs.take (k + 1) = ys.take (k + 1) := by
  have hk' : k < ys.length := by omega
  rw [List.take_add_one, List.take_add_one, h, List.getElem?_eq_getElem hk, List.getElem?_eq_getElem hk']
  simp [List.getD, hk, hk'] at hx
  rw [hx]

theorem list_ne_get {xs ys : List Int} {k : Nat} (hx : ¬ xs.getD k 0 = ys.getD k 0) : ¬ xs = ys := fun h => hx (by rw [h])

theorem l1Like (xs ys : List Int) (v u : Value) (w : World) (hx : xs.length ≤ maxLen) (hy : ys.length ≤ maxLen) (hv : Reads w v (ints xs)) (hu : Reads w u (ints ys)) :
    Calls Try.prog 102 #[v, u] w fun e w' => e = .returned (.bool (decide (xs = ys))) ∧ Below w.heap.size w w' := by
  unfold maxLen at hx hy
  obtain ⟨ao, cap, rfl, hc⟩ := hv
  obtain ⟨bo, cap', rfl, hd⟩ := hu
  simp only [ints_length]
  by_cases hlen : (xs.length : Int) = ys.length
  · have hlen' : xs.length = ys.length := by omega
    rw [← hlen']
    have HL : Hid _ := hlen'
    clear hlen hlen'
    go_enter Try.func102, Try.ntmps102
    go_wp2
    go_loopw [5] (fun i wr => ∃ k : Nat, k ≤ xs.length ∧ i = .int .i64 k ∧ xs.take k = ys.take k ∧ Below w.heap.size w wr) (fun i _ => xs.length - (intOf i).toNat)
    case atStart => exact ⟨0, Nat.zero_le _, rfl, by simp, Below.refl _ _⟩
    case round =>
      obtain ⟨k, hk, rfl, htk, hb⟩ := hrel
      by_cases hlt : k < xs.length
      · obtain ⟨g, off, rfl, hg⟩ := getD_int hc hlt
        obtain ⟨g', off', rfl, hg'⟩ := getD_int hd (k := k) (by have := HL.out; omega)
        have hg := (hb.cell (World.block_lt_of_cell? w _ hg)).trans hg
        have hg' := (hb.cell (World.block_lt_of_cell? w _ hg')).trans hg'
        have hlt' : (k : Int) < (xs.length : Int) := by omega
        have HE : Hid _ := list_ext_take hlt HL.out htk
        have HN : Hid _ := @list_ne_get xs ys k
        clear hc hd htk
        generalize xs.getD k 0 = x at *
        generalize ys.getD k 0 = y at *
        by_cases hxy : x = y
        · subst hxy
          go_wp2
          go_quiet (fail)
          go_wp2
          go_roundw
          case rel => exact ⟨k + 1, by omega, by go_num, HE.out trivial, below_drewN hb _⟩
          case measure => simp [intOf]; omega
        · go_wp2
          go_quiet (fail)
          go_wp2
          go_ret
          exact ⟨by rw [decide_eq_false (HN.out hxy)]; rfl, below_drewN hb _⟩
      · have hkk : k = xs.length := by omega
        subst hkk
        rw [List.take_length, HL.out, List.take_length] at htk
        have HE : Hid _ := htk
        clear htk
        go_wp2
        go_ret
        exact ⟨by rw [decide_eq_true HE.out]; rfl, hb⟩
  · have hne : ¬ xs = ys := fun h => hlen (by rw [h])
    go_enter Try.func102, Try.ntmps102
    go_wp2
    go_ret
    exact ⟨by rw [decide_eq_false hne]; rfl, Below.refl _ _⟩


theorem specUnit (w : World) : Calls Try.prog 97 #[] w fun e w' => ∃ a, e = .returned a ∧ w'.ownsRow w.heap.size 2 1 a unitL.length (ints unitL) ∧ Below w.heap.size w w' := by
  go_enter Try.func97, Try.ntmps97
  go_wp2
  go_ret
  refine ⟨_, rfl, ?_, by go_grown⟩
  exact World.ownsRow_lit (base := w.heap.size) (e := 2) (size := 1) w #[.int .i64 1, .int .i64 2, .int .i64 4, .int .i64 8, .int .i64 16, .int .i64 32, .int .i64 64] 7 (Nat.le_refl _) (by decide) (by simp)

end Go.Proofs.Ytnjbihfceckpfaa
