/-
  Chapter 6, the specification's side: l6Image, Image, l6Compose, l6Join, Compose, Join, Within, Unit.
-/
import Derived.Test.YthamlamaobcnkabRelM
import Derived.Deep.AppendLies
import Derived.Deep.RegionHeld3
namespace Go.Proofs.Ythamlamaobcnkab
open Go.RowKit
set_option linter.unusedVariables false
set_option maxHeartbeats 1000000

theorem l6Image (rs : List Int) (s : Int) (v : Value) (w : World) (hr : Smalls rs) (hs : Small s) (hv : Reads w v (ints rs)) :
    Calls Try.prog 21 #[v, .int .i64 s] w fun e w' => e = .returned (.int .i64 (img rs s)) ∧ Below w.heap.size w w' := by
  obtain ⟨ao, cap, rfl, hc⟩ := hv
  have h7 := hr.1
  simp only [ints_length, h7]
  go_enter Try.func21, Try.ntmps21
  go_wp2
  go_loopw [5, 6] (fun n i wr => ∃ k : Nat, k ≤ 7 ∧ i = .int .i64 k ∧ n = .int .i64 (imgK rs s k) ∧ w = wr) (fun _ i _ => 7 - (intOf i).toNat)
  case atStart => exact ⟨0, by omega, rfl, rfl, rfl⟩
  case round =>
    obtain ⟨k, hk, rfl, rfl, rfl⟩ := hrel
    by_cases hlt : k < 7
    · have hlt' : (k : Int) < 7 := by omega
      obtain ⟨g, off, rfl, hg⟩ := hc k (.int .i64 (rs.getD k 0)) (by simp [ints, List.getD, h7, hlt])
      have hb := bit_tmod k hs
      have HI : Hid (imgK rs s (k + 1) = if bit s k = true then lor (imgK rs s k) (rs.getD k 0) else imgK rs s k) := by exact rfl
      clear hc
      generalize rs.getD k 0 = y at *
      generalize imgK rs s k = z at *
      by_cases hbit : bit s k = true
      · rw [if_pos hbit] at hb
        have HI2 := HI.out
        rw [if_pos hbit] at HI2
        have HI3 : Hid _ := HI2
        clear HI HI2
        go_wp2
        go_roundw
        case rel => exact ⟨k + 1, by omega, by go_num, by rw [HI3.out]; rfl, trivial⟩
        case measure => simp [intOf]; omega
      · rw [if_neg hbit] at hb
        have HI2 := HI.out
        rw [if_neg hbit] at HI2
        have HI3 : Hid _ := HI2
        clear HI HI2
        go_wp2
        go_roundw
        case rel => exact ⟨k + 1, by omega, by go_num, by rw [HI3.out], trivial⟩
        case measure => simp [intOf]; omega
    · have hkk : k = 7 := by omega
      subst hkk
      go_wp2
      go_ret
      exact ⟨rfl, Below.refl _ _⟩

theorem specImage (rs : List Int) (s : Int) (v : Value) (w : World) (hl : rs.length ≤ maxLen) (hv : Reads w v (ints rs)) :
    Calls Try.prog 7 #[v, .int .i64 s] w fun e w' => e = .returned (.int .i64 (imageAns rs s)) ∧ Below w.heap.size w w' := by
  cases hr : relOk rs
  · have h1 : imageAns rs s = -1 := by simp [imageAns, hr]
    rw [h1]
    go_enter Try.func7, Try.ntmps7
    go_wp2_with (go_at_call 8; refine (specRelOk rs v w hl hv).mono ?_; rintro e w1 ⟨rfl, b1⟩; simp only [hr])
    go_ret
    exact ⟨rfl, b1⟩
  · cases hs : inB s 0 127
    · have h1 : imageAns rs s = -1 := by simp [imageAns, hs]
      rw [h1]
      go_enter Try.func7, Try.ntmps7
      go_wp2_with (first
        | (go_at_call 8; refine (specRelOk rs v w hl hv).mono ?_; rintro e w1 ⟨rfl, b1⟩; simp only [hr])
        | (go_at_call 20; refine (l1In _ _ _ _).mono ?_; rintro e w2 ⟨rfl, rfl⟩; simp only [hs]))
      go_ret
      exact ⟨rfl, b1⟩
    · have h1 : imageAns rs s = img rs s := by simp [imageAns, hs, hr]
      rw [h1]
      have hsm := small_in.1 hs
      have hrs := relOk_iff.1 hr
      go_enter Try.func7, Try.ntmps7
      go_wp2_with (first
        | (go_at_call 8; refine (specRelOk rs v w hl hv).mono ?_; rintro e w1 ⟨rfl, b1⟩; simp only [hr])
        | (go_at_call 20; refine (l1In _ _ _ _).mono ?_; rintro e w2 ⟨rfl, rfl⟩; simp only [hs])
        | (go_at_call 21; refine (l6Image rs s v w1 hrs hsm (reads_below hv b1)).mono ?_; rintro e w3 ⟨rfl, b3⟩))
      go_ret
      exact ⟨rfl, b1.trans (b3.mono b1.size)⟩

theorem comp_take {xs ys : List Int} {k : Nat} (h : k < xs.length) : (comp xs ys).take (k + 1) = (comp xs ys).take k ++ [img ys (xs.getD k 0)] := by
  rw [List.take_add_one]
  simp [comp, List.getD, h]

theorem joi_take {xs ys : List Int} {k : Nat} (h : k < xs.length) (h' : k < ys.length) : (joi xs ys).take (k + 1) = (joi xs ys).take k ++ [lor (xs.getD k 0) (ys.getD k 0)] := by
  rw [List.take_add_one]
  simp [joi, List.getD, h, h', List.getElem?_zipWith]

theorem ints_append (xs ys : List Int) : ints (xs ++ ys) = ints xs ++ ints ys := by simp [ints]

theorem getD_int {w : World} {ao : Option Addr} {xs : List Int} (hc : ∀ (j : Nat) (x : Value), (ints xs)[j]? = some x → ∃ g off, ao = some ⟨g, off, none⟩ ∧ w.cell? ⟨g, off + j, none⟩ = some x) {k : Nat} (h : k < xs.length) :
    ∃ g off, ao = some ⟨g, off, none⟩ ∧ w.cell? ⟨g, off + k, none⟩ = some (.int .i64 (xs.getD k 0)) := hc k _ (by simp [ints, List.getD, h])

theorem l6Compose (xs ys : List Int) (v u : Value) (w : World) (hx : Smalls xs) (hy : Smalls ys) (hv : Reads w v (ints xs)) (hu : Reads w u (ints ys)) :
    Calls Try.prog 22 #[v, u] w fun e w' => ∃ a, e = .returned a ∧ w'.ownsRow w.heap.size 2 1 a (comp xs ys).length (ints (comp xs ys)) ∧ Below w.heap.size w w' := by
  obtain ⟨i0, hi, hz0, hz1, hz2⟩ := info_parts infoInt
  obtain ⟨ao, cap, rfl, hc⟩ := hv
  have h7 := hx.1
  have hcl : (comp xs ys).length = 7 := by simp [comp, h7]
  simp only [ints_length, h7]
  go_enter Try.func22, Try.ntmps22
  go_wp2
  have B0 : Below w.heap.size w (w.alloc (.cells #[] 2)) := by go_grown
  go_loopw [5, 6] (fun o i wr => ∃ k : Nat, k ≤ 7 ∧ i = .int .i64 k ∧ wr.ownsRow w.heap.size 2 1 o ((comp xs ys).take k).length (ints ((comp xs ys).take k)) ∧ Below w.heap.size w wr) (fun _ i _ => 7 - (intOf i).toNat)
  case atStart => exact ⟨0, by omega, rfl, by simpa [ints] using made0 w, B0⟩
  case round =>
    obtain ⟨k, hk, rfl, hown, hb⟩ := hrel
    by_cases hlt : k < 7
    · have hlt' : (k : Int) < 7 := by omega
      obtain ⟨g, off, rfl, hg⟩ := getD_int hc (k := k) (by omega)
      have hg := (hb.cell (World.block_lt_of_cell? w _ hg)).trans hg
      have HN : Hid _ := comp_take (xs := xs) (ys := ys) (k := k) (by omega)
      have hsm := hx.getD k
      have him := l6Image ys (xs.getD k 0) u
      generalize xs.getD k 0 = x at *
      have hll : ((comp xs ys).take k).length ≤ 7 := by rw [List.length_take]; omega
      clear hc
      go_wp2_with fail
      go_at_call 21
      refine (him wr hy hsm (reads_below hu hb)).mono ?_
      rintro e w1 ⟨rfl, b1⟩
      have L1 := hb.trans (b1.mono hb.size)
      have s1 := b1.size
      have hb0 := hb.size
      have hown := own_kept hown b1
      have B1 : Hid (Below w.heap.size w (w1.alloc (.cells #[.int .i64 (img ys x)] 2))) := L1.alloc (by omega) _
      have HSZ : Hid (w.heap.size ≤ (w1.alloc (.cells #[.int .i64 (img ys x)] 2)).heap.size) := by exact B1.out.size
      go_wp2_with (first
        | (at_builtin; refine wpList_append_own _ rfl (.tmp 12) (.tmp 19) 24 rfl w.heap.size 2 i0 (.int .i64 0) 1 8 Try.underlying24 hi hz0 hz1 hz2 rfl (by decide) _ _ _ rfl (hown.alloc _) ⟨w1.heap.size, 0, none⟩ 1 _ [.int .i64 (img ys x)] rfl rfl (cell_one w1 _) (ints_oneCell [img ys x]) (by unfold maxLen; omega) (by omega) HSZ.out ?_; intro v2 w2 own2 grow2 _; have L2 := below_app B1.out grow2 (fun q hq => (hown.lt q hq).1))
        | go_in)
      go_roundw
      case rel =>
        refine ⟨k + 1, by omega, by go_num, ?_, L2⟩
        rw [HN.out, ints_append, List.length_append]
        exact own2
      case measure => simp [intOf]; omega
    · have hkk : k = 7 := by omega
      subst hkk
      rw [← hcl, List.take_length] at hown
      go_wp2
      go_ret
      exact ⟨_, rfl, hown, hb⟩


theorem specCompose (xs ys : List Int) (v u : Value) (w : World) (hx : xs.length ≤ maxLen) (hy : ys.length ≤ maxLen) (hv : Reads w v (ints xs)) (hu : Reads w u (ints ys)) :
    Calls Try.prog 11 #[v, u] w fun e w' => ∃ a, e = .returned a ∧ w'.ownsRow w.heap.size 2 1 a (compAns xs ys).length (ints (compAns xs ys)) ∧ Below w.heap.size w w' := by
  cases hr : relOk xs
  · have h1 : compAns xs ys = [] := by simp [compAns, hr]
    rw [h1]
    go_enter Try.func11, Try.ntmps11
    go_wp2_with (go_at_call 8; refine (specRelOk xs v w hx hv).mono ?_; rintro e w1 ⟨rfl, b1⟩; simp only [hr])
    go_ret
    exact ⟨_, rfl, own_mono (made0 w1) b1.size, b1.alloc b1.size _⟩
  · cases hs : relOk ys
    · have h1 : compAns xs ys = [] := by simp [compAns, hs]
      rw [h1]
      go_enter Try.func11, Try.ntmps11
      go_wp2_with fail
      go_at_call 8
      refine (specRelOk xs v w hx hv).mono ?_
      rintro e w1 ⟨rfl, b1⟩
      simp only [hr]
      go_wp2_with fail
      go_at_call 8
      refine (specRelOk ys u w1 hy (reads_below hu b1)).mono ?_
      rintro e w2 ⟨rfl, b2⟩
      have L2 := b1.trans (b2.mono b1.size)
      simp only [hs]
      go_wp2
      go_ret
      exact ⟨_, rfl, own_mono (made0 w2) L2.size, L2.alloc L2.size _⟩
    · have h1 : compAns xs ys = comp xs ys := by simp [compAns, hs, hr]
      rw [h1]
      have hxs := relOk_iff.1 hr
      have hys := relOk_iff.1 hs
      go_enter Try.func11, Try.ntmps11
      go_wp2_with fail
      go_at_call 8
      refine (specRelOk xs v w hx hv).mono ?_
      rintro e w1 ⟨rfl, b1⟩
      simp only [hr]
      go_wp2_with fail
      go_at_call 8
      refine (specRelOk ys u w1 hy (reads_below hu b1)).mono ?_
      rintro e w2 ⟨rfl, b2⟩
      have L2 := b1.trans (b2.mono b1.size)
      simp only [hs]
      go_wp2_with fail
      go_at_call 22
      refine (l6Compose xs ys v u w2 hxs hys (reads_below hv L2) (reads_below hu L2)).mono ?_
      rintro e w3 ⟨a, rfl, oa, b3⟩
      go_wp2
      go_ret
      exact ⟨a, rfl, own_mono oa L2.size, L2.trans (b3.mono L2.size)⟩


theorem list_ext_take {xs ys : List Int} {k : Nat} (hk : k < xs.length) (hl : xs.length = ys.length) (h : xs.take k = ys.take k) (hx : xs.getD k 0 = ys.getD k 0) : xs.take (k + 1) = ys.take (k + 1) := by
  have hk' : k < ys.length := by omega
  rw [List.take_add_one, List.take_add_one, h, List.getElem?_eq_getElem hk, List.getElem?_eq_getElem hk']
  simp [List.getD, hk, hk'] at hx
  rw [hx]

theorem list_ne_get {xs ys : List Int} {k : Nat} (hx : ¬ xs.getD k 0 = ys.getD k 0) : ¬ xs = ys := fun h => hx (by rw [h])




end Go.Proofs.Ythamlamaobcnkab
