/-
  Chapter 7, mathematics and the program's helpers: what makes the fact of a variable; the facts of a set alone.
-/
import Derived.Test.YtnjbihfceckpfaaG07RelTop
namespace Go.Proofs.Ytnjbihfceckpfaa
open Go.RowKit
set_option linter.unusedVariables false
set_option maxHeartbeats 1000000

/-- The facts of a that are not in b. -/
def cut (a b : Int) : Int := bits .andNot .i64 a b

/-- What a fact makes then: made alone of those in m. -/
def mkAt (r made m : Int) (j : Nat) : Int := if bit m j = true then lor (cut r made) made else cut r made

def mkL (rs : List Int) (made m : Int) : List Int := (List.range 7).map (fun j => mkAt (rs.getD j 0) made m j)

theorem mkL_length (rs : List Int) (made m : Int) : (mkL rs made m).length = 7 := by simp [mkL]

theorem mkL_getD (rs : List Int) (made m : Int) (j : Nat) (hj : j < 7) : (mkL rs made m).getD j 0 = mkAt (rs.getD j 0) made m j := by
  simp [mkL, List.getD, hj]

/-- The set of a variable's fact. -/
def factN (x : Nat) : Int := 2 ^ (x + 1)

theorem factOf (x : Nat) (hx : x < 6) (w : World) :
    Calls Try.prog 59 #[.int .i64 (x : Int)] w fun e w' => e = .returned (.int .i64 (factN x)) ∧ w = w' := by
  have hc : x = 0 ∨ x = 1 ∨ x = 2 ∨ x = 3 ∨ x = 4 ∨ x = 5 := by omega
  rcases hc with rfl | rfl | rfl | rfl | rfl | rfl
  all_goals
    go_enter Try.func59, Try.ntmps59
    go_wp2
    go_ret
    exact ⟨rfl, rfl⟩

theorem madeBy (rs : List Int) (x : Nat) (m : Int) (w : World) (h7 : rs.length = 7) (hx : x < 6) (hm : Small m) :
    Calls Try.prog 150 #[relV rs, .int .i64 (x : Int), .int .i64 m] w fun e w' => e = .returned (relV (mkL rs (factN x) m)) ∧ Below w.heap.size w w' := by
  have hfo := fun W => factOf x hx W
  obtain ⟨f, hf⟩ : ∃ f, factN x = f := ⟨_, rfl⟩
  rw [hf] at hfo ⊢
  clear hf
  obtain ⟨zs, hzs⟩ : ∃ zs, mkL rs f m = zs := ⟨_, rfl⟩
  have hz7 : zs.length = 7 := by rw [← hzs]; exact mkL_length _ _ _
  have hzg : ∀ j, j < 7 → zs.getD j 0 = mkAt (rs.getD j 0) f m j := fun j hj => by
    rw [← hzs]; exact mkL_getD _ _ _ j hj
  rw [hzs]
  have HZ : Hid (∀ j, j < 7 → zs.getD j 0 = mkAt (rs.getD j 0) f m j) := hzg
  clear hzs hzg
  obtain ⟨cs, hcs⟩ : ∃ cs, ints rs = cs := ⟨_, rfl⟩
  unfold relV
  rw [hcs]
  go_enter Try.func150, Try.ntmps150
  subst hcs
  have hW : (w.alloc (.cells (ints rs).toArray 64)).heap.size = w.heap.size + 1 := by simp
  have L0 : Below w.heap.size w ((w.alloc (.cells (ints rs).toArray 64)).alloc (.cells (ints (List.replicate 7 0)).toArray 64)) := by go_grown
  have B0 : RelAt ((w.alloc (.cells (ints rs).toArray 64)).alloc (.cells (ints (List.replicate 7 0)).toArray 64)) w.heap.size rs := by
    rw [RelAt, old_block (by simp)]; exact heap_alloc_new w _
  have B2 : RelAt ((w.alloc (.cells (ints rs).toArray 64)).alloc (.cells (ints (List.replicate 7 0)).toArray 64)) (w.heap.size + 1) (List.replicate 7 0) := by
    have := heap_alloc_new (w.alloc (.cells (ints rs).toArray 64)) (.cells (ints (List.replicate 7 0)).toArray 64)
    rw [hW] at this
    exact this
  go_wp2_with fail
  go_at_call 59
  refine (hfo _).mono ?_
  rintro e w1 ⟨rfl, rfl⟩
  clear hfo
  rw [zeros7]
  generalize (w.alloc (.cells (ints rs).toArray 64)).alloc (.cells (ints (List.replicate 7 0)).toArray 64) = W1 at B0 B2 L0 ⊢
  clear hW
  go_wp2_with fail
  go_loopw [11] (fun i wr => ∃ (k : Nat) (L : List Int), k ≤ 7 ∧ i = .int .i64 k ∧ L.length = 7 ∧ (∀ j, j < 7 → L.getD j 0 = if j < k then mkAt (rs.getD j 0) f m j else rs.getD j 0) ∧
      RelAt wr w.heap.size L ∧ RelAt wr (w.heap.size + 1) (List.replicate 7 0) ∧ Below w.heap.size w wr) (fun i _ => 7 - (intOf i).toNat)
  case atStart => exact ⟨0, rs, by omega, rfl, h7, fun j _ => by simp, B0, B2, L0⟩
  case round =>
    obtain ⟨k, L, hk, rfl, hL, hLg, b0, b2, hb⟩ := hrel
    clear B0 B2 L0
    by_cases hlt : k < 7
    · have hlt' : (k : Int) < 7 := by omega
      obtain ⟨c0, f0⟩ := b0.cell k (by omega)
      have e0 : L.getD k 0 = rs.getD k 0 := by
        have := hLg k hlt
        rw [if_neg (by omega)] at this
        exact this
      rw [e0] at c0
      have H0 : Hid (RelAt wr w.heap.size L) := b0
      have H2 : Hid (RelAt wr (w.heap.size + 1) (List.replicate 7 0)) := b2
      have HL : Hid (∀ j, j < 7 → L.getD j 0 = if j < k then mkAt (rs.getD j 0) f m j else rs.getD j 0) := hLg
      clear b0 b2 hLg e0
      obtain ⟨x, hx⟩ : ∃ x, rs.getD k 0 = x := ⟨_, rfl⟩
      have HX : Hid (rs.getD k 0 = x) := hx
      rw [hx] at c0
      clear hx
      have hbt := bit_and k hm
      have HG : Hid (∀ (z : Int), z = mkAt x f m k → ∀ j, j < 7 → (L.set k z).getD j 0 = if j < k + 1 then mkAt (rs.getD j 0) f m j else rs.getD j 0) := by
        intro z hz j hj
        by_cases hjk : j = k
        · subst hjk
          rw [if_pos (by omega), HX.out, hz]
          simp [List.getD, hL, hj]
        · have := HL.out j hj
          have e : (L.set k z).getD j 0 = L.getD j 0 := by simp [List.getD, List.getElem?_set_ne (fun e => hjk e.symm)]
          rw [e, this]
          by_cases hjk2 : j < k
          · rw [if_pos hjk2, if_pos (by omega)]
          · rw [if_neg hjk2, if_neg (by omega)]
      have hk1 : ∀ (W : World) (v : Value), RelAt W (w.heap.size + 1) (List.replicate 7 0) → RelAt (W.setCell ⟨w.heap.size, k, none⟩ v) (w.heap.size + 1) (List.replicate 7 0) := fun W v h =>
        ((grown_setCell7 W w.heap.size k v).block _ h.lt (by simp)).trans h
      have HK : Hid _ := hk1
      clear hk1
      by_cases hbit : bit m k = true
      · rw [if_pos hbit] at hbt
        have hmk : mkAt x f m k = bits .or .i64 (bits .andNot .i64 x f) f := by rw [mkAt, if_pos hbit]; rfl
        have HM : Hid _ := hmk
        clear hmk
        go_wp2
        go_roundw
        case rel =>
          refine ⟨k + 1, _, by omega, by go_num, ?_, ?_, (H0.out.set k _).set k _, HK.out _ _ (HK.out _ _ H2.out), (hb.setCell (Nat.le_refl _) _).setCell (Nat.le_refl _) _⟩
          · simpa using hL
          · rw [List.set_set]; exact HG.out _ HM.out.symm
        case measure => simp [intOf]; omega
      · rw [if_neg hbit] at hbt
        have hmk : mkAt x f m k = bits .andNot .i64 x f := by rw [mkAt, if_neg hbit]; rfl
        have HM : Hid _ := hmk
        clear hmk
        go_wp2
        go_roundw
        case rel =>
          refine ⟨k + 1, _, by omega, by go_num, ?_, ?_, (H0.out.set k _), (HK.out _ _ H2.out), (hb.setCell (Nat.le_refl _) _)⟩
          · simpa using hL
          · exact HG.out _ HM.out.symm
        case measure => simp [intOf]; omega
    · have hkk : k = 7 := by omega
      subst hkk
      have hLd : L = zs := list7 hL hz7 (fun j hj => by rw [hLg j hj, if_pos hj, HZ.out j hj])
      subst hLd
      have H0 : Hid (RelAt wr w.heap.size L) := b0
      have h7t : wr.there (w.heap.size + 1) 0 7 := by simpa using b2.there
      have HT : Hid _ := h7t
      clear b0 b2 hLg HZ h7t
      go_wp2_with (first | refine wpList_loadRel rfl (.tmp 3) rfl w.heap.size 0 L rfl hL H0.out.range ?_ | refine wpList_storeRel rfl rfl (.tmp 6) (.tmp 32) rfl (w.heap.size + 1) 0 L rfl rfl hL HT.out ?_)
      refine bodyPost_cellR rfl (w.heap.size + 1) 0 (ints L) _ rfl (World.rangeAt_setCells_same _ _ _ _ (by rw [ints_length, hL]; exact HT.out)) relUnd rfl (by rw [relInfo]; simp [ints, hL]) rfl ⟨rfl, ?_⟩
      exact hb.grown (grown_setCells7 _ _ _ _) (by have := hb.size; omega) (fun k hk => by simp at hk; omega)

/-- The facts of a set alone, each by itself. -/
def onlyL (s : Int) : List Int := unitL.map (fun x => bits .and .i64 x s)

theorem onlyL_length (s : Int) : (onlyL s).length = 7 := rfl

theorem onlyL_getD (s : Int) (j : Nat) (hj : j < 7) : (onlyL s).getD j 0 = bits .and .i64 (unitL.getD j 0) s := by
  have hu : unitL.length = 7 := rfl
  simp [onlyL, List.getD, hu, hj]

theorem themselves (s : Int) (w : World) :
    Calls Try.prog 138 #[.int .i64 s] w fun e w' => e = .returned (relV (onlyL s)) ∧ Below w.heap.size w w' := by
  have hun := fun W => implUnit W
  obtain ⟨us, hus⟩ : ∃ us, unitL = us := ⟨_, rfl⟩
  have hu7 : us.length = 7 := by rw [← hus]; rfl
  obtain ⟨zs, hzs⟩ : ∃ zs, onlyL s = zs := ⟨_, rfl⟩
  have hz7 : zs.length = 7 := by rw [← hzs]; rfl
  have hzg : ∀ j, j < 7 → zs.getD j 0 = bits .and .i64 (us.getD j 0) s := fun j hj => by rw [← hzs, ← hus]; exact onlyL_getD s j hj
  have HZ : Hid (∀ j, j < 7 → zs.getD j 0 = bits .and .i64 (us.getD j 0) s) := hzg
  rw [hzs]
  rw [hus] at hun
  clear hzs hzg hus
  go_enter Try.func138, Try.ntmps138
  go_wp2_with fail
  go_at_call 142
  refine (hun _).mono ?_
  rintro e w1 ⟨a, rfl, oa, b1⟩
  clear hun
  have B2 : RelAt w1 w.heap.size (List.replicate 7 0) := by
    refine (b1.block _ (by simp)).trans ?_
    rw [zeros7]
    exact heap_alloc_new w _
  have L1 : Below w.heap.size w w1 := by
    have hb0 : Below w.heap.size w (w.alloc (.cells #[.int .i64 0, .int .i64 0, .int .i64 0, .int .i64 0, .int .i64 0, .int .i64 0, .int .i64 0] 64)) := by go_grown
    exact hb0.trans (b1.mono hb0.size)
  obtain ⟨g, off, cap, rfl, hrg⟩ := reads_range (reads_own oa) hu7
  have HG : Hid (w1.rangeAt g off (ints us)) := hrg
  have H2 : Hid (RelAt w1 w.heap.size (List.replicate 7 0)) := B2
  clear hrg B2 oa b1
  have hst : (w1.alloc (.cells (ints (List.replicate 7 0)).toArray 64)).there w1.heap.size 0 7 := by
    have : RelAt (w1.alloc (.cells (ints (List.replicate 7 0)).toArray 64)) w1.heap.size (List.replicate 7 0) := heap_alloc_new w1 _
    simpa using this.there
  rw [← zeros7] at hst
  have HS : Hid _ := hst
  clear hst
  go_wp2_with (first
    | refine wpList_arrayAt rfl (.tmp 5) rfl g off cap rfl ?_
    | refine wpList_loadRel rfl (.tmp 6) rfl g off us rfl hu7 HG.out ?_
    | refine wpList_storeRel rfl rfl (.tmp 3) (.tmp 7) rfl w1.heap.size 0 us rfl rfl hu7 HS.out ?_)
  have s1 := L1.size
  have B0 : RelAt ((w1.alloc (.cells (ints (List.replicate 7 0)).toArray 64)).setCells w1.heap.size 0 (ints us)) w1.heap.size us :=
    RelAt.store (heap_alloc_new w1 _) (by simpa using hu7)
  have B2 : RelAt ((w1.alloc (.cells (ints (List.replicate 7 0)).toArray 64)).setCells w1.heap.size 0 (ints us)) w.heap.size (List.replicate 7 0) := by
    refine ((grown_setCells7 _ _ _ _).block _ (by have := H2.out.lt; simp; omega) (by have := H2.out.lt; simp; omega)).trans ?_
    rw [old_block H2.out.lt]
    exact H2.out
  have L2 : Below w.heap.size w ((w1.alloc (.cells (ints (List.replicate 7 0)).toArray 64)).setCells w1.heap.size 0 (ints us)) := by
    have hb1 : Below w.heap.size w1 (w1.alloc (.cells (ints (List.replicate 7 0)).toArray 64)) := by go_grown
    exact (L1.trans hb1).grown (grown_setCells7 _ _ _ _) (L1.trans hb1).size (fun k hk => by simp at hk; omega)
  have hlt1 := H2.out.lt
  clear HG HS H2
  rw [zeros7]
  generalize (w1.alloc (.cells (ints (List.replicate 7 0)).toArray 64)).setCells w1.heap.size 0 (ints us) = W2 at B0 B2 L2 ⊢
  generalize hB : w1.heap.size = B at *
  have hBn : B ≠ w.heap.size := by omega
  clear hB L1
  go_wp2_with fail
  go_loopw [8] (fun i wr => ∃ (k : Nat) (L : List Int), k ≤ 7 ∧ i = .int .i64 k ∧ L.length = 7 ∧ (∀ j, j < 7 → L.getD j 0 = if j < k then bits .and .i64 (us.getD j 0) s else us.getD j 0) ∧
      RelAt wr B L ∧ RelAt wr w.heap.size (List.replicate 7 0) ∧ Below w.heap.size w wr) (fun i _ => 7 - (intOf i).toNat)
  case atStart => exact ⟨0, us, by omega, rfl, hu7, fun j _ => by simp, B0, B2, L2⟩
  case round =>
    obtain ⟨k, L, hk, rfl, hL, hLg, b0, b2, hb⟩ := hrel
    clear B0 B2 L2
    by_cases hlt : k < 7
    · have hlt' : (k : Int) < 7 := by omega
      obtain ⟨c0, f0⟩ := b0.cell k (by omega)
      have e0 : L.getD k 0 = us.getD k 0 := by
        have := hLg k hlt
        rw [if_neg (by omega)] at this
        exact this
      rw [e0] at c0
      have H0 : Hid (RelAt wr B L) := b0
      have H2 : Hid (RelAt wr w.heap.size (List.replicate 7 0)) := b2
      have HL : Hid (∀ j, j < 7 → L.getD j 0 = if j < k then bits .and .i64 (us.getD j 0) s else us.getD j 0) := hLg
      clear b0 b2 hLg e0
      obtain ⟨x, hx⟩ : ∃ x, us.getD k 0 = x := ⟨_, rfl⟩
      have HX : Hid (us.getD k 0 = x) := hx
      rw [hx] at c0
      clear hx
      go_wp2
      go_roundw
      case rel =>
        refine ⟨k + 1, L.set k (bits .and .i64 x s), by omega, by go_num, by simpa using hL, fun j hj => ?_, H0.out.set k _, ((grown_setCell7 wr B k _).block _ H2.out.lt (by simp; omega)).trans H2.out, hb.setCell (by omega) _⟩
        by_cases hjk : j = k
        · subst hjk
          rw [if_pos (by omega), HX.out]
          simp [List.getD, hL, hj]
        · have := HL.out j hj
          have e : (L.set k (bits .and .i64 x s)).getD j 0 = L.getD j 0 := by simp [List.getD, List.getElem?_set_ne (fun e => hjk e.symm)]
          rw [e, this]
          by_cases hjk2 : j < k
          · rw [if_pos hjk2, if_pos (by omega)]
          · rw [if_neg hjk2, if_neg (by omega)]
      case measure => simp [intOf]; omega
    · have hkk : k = 7 := by omega
      subst hkk
      have hLd : L = zs := list7 hL hz7 (fun j hj => by rw [hLg j hj, if_pos hj, HZ.out j hj])
      subst hLd
      have H0 : Hid (RelAt wr B L) := b0
      have h7t : wr.there w.heap.size 0 7 := by simpa using b2.there
      have HT : Hid _ := h7t
      clear b0 b2 hLg HZ h7t
      go_wp2_with (first | refine wpList_loadRel rfl (.tmp 3) rfl B 0 L rfl hL H0.out.range ?_ | refine wpList_storeRel rfl rfl (.tmp 2) (.tmp 18) rfl w.heap.size 0 L rfl rfl hL HT.out ?_)
      refine bodyPost_cellR rfl w.heap.size 0 (ints L) _ rfl (World.rangeAt_setCells_same _ _ _ _ (by rw [ints_length, hL]; exact HT.out)) relUnd rfl (by rw [relInfo]; simp [ints, hL]) rfl ⟨rfl, ?_⟩
      exact hb.grown (grown_setCells7 _ _ _ _) (by have := hb.size; omega) (fun k hk => by simp at hk; omega)

end Go.Proofs.Ytnjbihfceckpfaa
