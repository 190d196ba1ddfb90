/-
 Put together out of: RelTop, FlowM, FlowTop.
-/
import Derived.Test.YtnjbihfceckpfaaImplRel
import Derived.Test.YtnjbihfceckpfaaG03DrawProc
import Derived.Laws.EntriesVeiled
/-
 Chapter 6, the program's side: Image, ofTwo, Compose, Join, Within, Unit.
-/
namespace Go.Proofs.Ytnjbihfceckpfaa
open Go.RowKit
set_option linter.unusedVariables false
set_option maxHeartbeats 1000000

theorem wpList_arrayAt {ops : Array Oper} {rest : List Oper} {op : Oper} {a : Act} {w : World} {Q : Exit → Act → World → Prop} (hgd : op.guard = none) (x : Operand) (ho : op.op = .sliceToArrayPointer 64 x)
 (g off cap : Nat) (hx : a.eval x = .slice (some ⟨g, off, none⟩) 7 cap)
 (h : wpList Try.prog ops Q rest (a.put op.dst (.pointer (some ⟨g, off, none⟩))) w) : wpList Try.prog ops Q (op :: rest) a w := by
 refine wpList_plain hgd fun K hK => ?_
 unfold Oper.wp execOp
 simp only [ho, hx, Sem.run_bind, run_arrayAt w 64 2 7 (some ⟨g, off, none⟩) 7 cap relUnd (by omega), Result.andThen_ok]
 exact hK _ _ h

theorem implImage (rs : List Int) (s : Int) (v : Value) (w : World) (hl : rs.length ≤ maxLen) (hv : Reads w v (ints rs)) :
 Calls Try.prog 126 #[v, .int .i64 s] w fun e w' => e = .returned (.int .i64 (imageAns rs s)) ∧ Below w.heap.size w w' := by
 cases hr : relOk rs
 · have h1 : imageAns rs s = -1 := by simp [imageAns, hr]
   rw [h1]
   go_enter Try.func126, Try.ntmps126
   go_wp2_with (go_at_call 146; refine (implRelOk rs v w hl hv).mono ?_; rintro e w1 ⟨rfl, b1⟩; simp only [hr])
   go_ret
   exact ⟨rfl, b1⟩
 · cases hs : inB s 0 127
   · have h1 : imageAns rs s = -1 := by simp [imageAns, hs]
     rw [h1]
     go_enter Try.func126, Try.ntmps126
     go_wp2_with (first
      | (go_at_call 146; refine (implRelOk rs v w hl hv).mono ?_; rintro e w1 ⟨rfl, b1⟩; simp only [hr])
      | (go_at_call 137; refine (within _ _ _).mono ?_; rintro e w2 ⟨rfl, rfl⟩; simp only [wiB_inB, hs]))
     go_ret
     exact ⟨rfl, b1⟩
   · have h1 : imageAns rs s = img rs s := by simp [imageAns, hs, hr]
     rw [h1]
     have hsm := small_in.1 hs
     have hrs := relOk_iff.1 hr
     have him := fun W => relImage rs s W hrs hsm
     have h7 := hrs.1
     obtain ⟨g, off, cap, hve, hrg⟩ := reads_range hv h7
     have hro := implRelOk rs v w hl hv
     subst hve
     go_enter Try.func126, Try.ntmps126
     go_wp2_with fail
     go_at_call 146
     refine hro.mono ?_
     rintro e w1 ⟨rfl, b1⟩
     simp only [hr]
     have HRG : Hid _ := range_below hrg b1
     clear hrg
     go_wp2_with (first
      | (go_at_call 137; refine (within _ _ _).mono ?_; rintro e w2 ⟨rfl, rfl⟩; simp only [wiB_inB, hs])
      | refine wpList_arrayAt rfl (.tmp 13) rfl g off cap rfl ?_
      | refine wpList_loadRel rfl (.tmp 14) rfl g off rs rfl h7 HRG.out ?_
      | (go_at_call 115; refine (him _).mono ?_; rintro e w3 ⟨rfl, b3⟩))
     go_ret
     exact ⟨rfl, b1.trans (b3.mono b1.size)⟩

theorem implUnit (w : World) : Calls Try.prog 142 #[] w fun e w' => ∃ a, e = .returned a ∧ w'.ownsRow w.heap.size 64 1 a unitL.length (ints unitL) ∧ Below w.heap.size w w' := by
 have hb0 : Below w.heap.size w (w.alloc (.cells (ints (List.replicate 7 0)).toArray 64)) := by go_grown
 have B0 : RelAt (w.alloc (.cells (ints (List.replicate 7 0)).toArray 64)) w.heap.size (List.replicate 7 0) := heap_alloc_new w _
 go_enter Try.func142, Try.ntmps142
 go_wp2
 rw [zeros7]
 go_loopw [3] (fun i wr => ∃ (k : Nat), k ≤ 7 ∧ i = .int .i64 k ∧ RelAt wr w.heap.size (unitL.take k ++ List.replicate (7 - k) 0) ∧ Below w.heap.size w wr) (fun i _ => 7 - (intOf i).toNat)
 case atStart => exact ⟨0, by omega, rfl, B0, hb0⟩
 case round =>
  obtain ⟨k, hk, rfl, b0, hb⟩ := hrel
  clear B0 hb0
  by_cases hlt : k < 7
  · have hlt' : (k : Int) < 7 := by omega
    have hpl : (unitL.take k ++ List.replicate (7 - k) (0 : Int)).length = 7 := by simp [unitL]; omega
    obtain ⟨c0, f0⟩ := b0.cell k (by omega)
    have hset : ∀ x, x = (2 : Int) ^ k → (unitL.take k ++ List.replicate (7 - k) (0 : Int)).set k x = unitL.take (k + 1) ++ List.replicate (7 - (k + 1)) 0 := by
     rintro x rfl
     have hc : k = 0 ∨ k = 1 ∨ k = 2 ∨ k = 3 ∨ k = 4 ∨ k = 5 ∨ k = 6 := by omega
     rcases hc with rfl | rfl | rfl | rfl | rfl | rfl | rfl <;> rfl
    have hpow : (1 : Int) * 2 ^ k ≤ 64 ∧ (1 : Int) ≤ 2 ^ k := by
     have hc : k = 0 ∨ k = 1 ∨ k = 2 ∨ k = 3 ∨ k = 4 ∨ k = 5 ∨ k = 6 := by omega
     rcases hc with rfl | rfl | rfl | rfl | rfl | rfl | rfl <;> decide
    have HS : Hid _ := hset
    have H0 : Hid _ := b0
    clear hset b0
    go_wp2
    go_roundw
    case rel =>
     refine ⟨k + 1, by omega, by go_num, ?_, hb.setCell (Nat.le_refl _) _⟩
     rw [← HS.out _ rfl]
     exact RelAt.set H0.out k (2 ^ k)
    case measure => simp [intOf]; omega
  · have hkk : k = 7 := by omega
    subst hkk
    have hR : RelAt wr w.heap.size unitL := b0
    have HR : Hid _ := hR
    clear hR b0
    go_wp2
    go_ret
    exact ⟨_, rfl, RelAt.own HR.out (Nat.le_refl _) rfl, hb⟩

end Go.Proofs.Ytnjbihfceckpfaa

/-
 Chapter 7, mathematics and the program's helpers: what makes the fact of a variable; the facts of a set alone.
-/
namespace Go.Proofs.Ytnjbihfceckpfaa
open Go.RowKit
set_option linter.unusedVariables false
set_option maxHeartbeats 1000000

/-- The facts of a that are not in b. -/
def cut (a b : Int) : Int := bits .andNot .i64 a b

/-- What a fact makes then: made alone of those in m. -/
def mkAt (r made m : Int) (j : Nat) : Int := if bit m j = true then lor (cut r made) made else cut r made

def mkL (rs : List Int) (made m : Int) : List Int := (List.range 7).map (fun j => mkAt (rs.getD j 0) made m j)

theorem mkL_length (rs : List Int) (made m : Int) : (mkL rs made m).length = 7 := by simp [mkL]

theorem mkL_getD (rs : List Int) (made m : Int) (j : Nat) (hj : j < 7) : (mkL rs made m).getD j 0 = mkAt (rs.getD j 0) made m j := by
 simp [mkL, List.getD, hj]

/-- The set of a variable's fact. -/
def factN (x : Nat) : Int := 2 ^ (x + 1)

theorem factOf (x : Nat) (hx : x < 6) (w : World) :
 Calls Try.prog 59 #[.int .i64 (x : Int)] w fun e w' => e = .returned (.int .i64 (factN x)) ∧ w = w' := by
 have hc : x = 0 ∨ x = 1 ∨ x = 2 ∨ x = 3 ∨ x = 4 ∨ x = 5 := by omega
 rcases hc with rfl | rfl | rfl | rfl | rfl | rfl
 all_goals
  go_enter Try.func59, Try.ntmps59
  go_wp2
  go_ret
  exact ⟨rfl, rfl⟩

theorem madeBy (rs : List Int) (x : Nat) (m : Int) (w : World) (h7 : rs.length = 7) (hx : x < 6) (hm : Small m) :
 Calls Try.prog 150 #[relV rs, .int .i64 (x : Int), .int .i64 m] w fun e w' => e = .returned (relV (mkL rs (factN x) m)) ∧ Below w.heap.size w w' := by
 have hfo := fun W => factOf x hx W
 obtain ⟨f, hf⟩ : ∃ f, factN x = f := ⟨_, rfl⟩
 rw [hf] at hfo ⊢
 clear hf
 obtain ⟨zs, hzs⟩ : ∃ zs, mkL rs f m = zs := ⟨_, rfl⟩
 have hz7 : zs.length = 7 := by rw [← hzs]; exact mkL_length _ _ _
 have hzg : ∀ j, j < 7 → zs.getD j 0 = mkAt (rs.getD j 0) f m j := fun j hj => by
  rw [← hzs]; exact mkL_getD _ _ _ j hj
 rw [hzs]
 have HZ : Hid (∀ j, j < 7 → zs.getD j 0 = mkAt (rs.getD j 0) f m j) := hzg
 clear hzs hzg
 obtain ⟨cs, hcs⟩ : ∃ cs, ints rs = cs := ⟨_, rfl⟩
 unfold relV
 rw [hcs]
 go_enter Try.func150, Try.ntmps150
 subst hcs
 have hW : (w.alloc (.cells (ints rs).toArray 64)).heap.size = w.heap.size + 1 := by simp
 have L0 : Below w.heap.size w ((w.alloc (.cells (ints rs).toArray 64)).alloc (.cells (ints (List.replicate 7 0)).toArray 64)) := by go_grown
 have B0 : RelAt ((w.alloc (.cells (ints rs).toArray 64)).alloc (.cells (ints (List.replicate 7 0)).toArray 64)) w.heap.size rs := by
  rw [RelAt, old_block (by simp)]; exact heap_alloc_new w _
 have B2 : RelAt ((w.alloc (.cells (ints rs).toArray 64)).alloc (.cells (ints (List.replicate 7 0)).toArray 64)) (w.heap.size + 1) (List.replicate 7 0) := by
  have := heap_alloc_new (w.alloc (.cells (ints rs).toArray 64)) (.cells (ints (List.replicate 7 0)).toArray 64)
  rw [hW] at this
  exact this
 go_wp2_with fail
 go_at_call 59
 refine (hfo _).mono ?_
 rintro e w1 ⟨rfl, rfl⟩
 clear hfo
 rw [zeros7]
 generalize (w.alloc (.cells (ints rs).toArray 64)).alloc (.cells (ints (List.replicate 7 0)).toArray 64) = W1 at B0 B2 L0 ⊢
 clear hW
 go_wp2_with fail
 go_loopw [11] (fun i wr => ∃ (k : Nat) (L : List Int), k ≤ 7 ∧ i = .int .i64 k ∧ L.length = 7 ∧ (∀ j, j < 7 → L.getD j 0 = if j < k then mkAt (rs.getD j 0) f m j else rs.getD j 0) ∧
  RelAt wr w.heap.size L ∧ RelAt wr (w.heap.size + 1) (List.replicate 7 0) ∧ Below w.heap.size w wr) (fun i _ => 7 - (intOf i).toNat)
 case atStart => exact ⟨0, rs, by omega, rfl, h7, fun j _ => by simp, B0, B2, L0⟩
 case round =>
  obtain ⟨k, L, hk, rfl, hL, hLg, b0, b2, hb⟩ := hrel
  clear B0 B2 L0
  by_cases hlt : k < 7
  · have hlt' : (k : Int) < 7 := by omega
    obtain ⟨c0, f0⟩ := b0.cell k (by omega)
    have e0 : L.getD k 0 = rs.getD k 0 := by
     have := hLg k hlt
     rw [if_neg (by omega)] at this
     exact this
    rw [e0] at c0
    have H0 : Hid (RelAt wr w.heap.size L) := b0
    have H2 : Hid (RelAt wr (w.heap.size + 1) (List.replicate 7 0)) := b2
    have HL : Hid (∀ j, j < 7 → L.getD j 0 = if j < k then mkAt (rs.getD j 0) f m j else rs.getD j 0) := hLg
    clear b0 b2 hLg e0
    obtain ⟨x, hx⟩ : ∃ x, rs.getD k 0 = x := ⟨_, rfl⟩
    have HX : Hid (rs.getD k 0 = x) := hx
    rw [hx] at c0
    clear hx
    have hbt := bit_and k hm
    have HG : Hid (∀ (z : Int), z = mkAt x f m k → ∀ j, j < 7 → (L.set k z).getD j 0 = if j < k + 1 then mkAt (rs.getD j 0) f m j else rs.getD j 0) := by
     intro z hz j hj
     by_cases hjk : j = k
     · subst hjk
       rw [if_pos (by omega), HX.out, hz]
       simp [List.getD, hL, hj]
     · have := HL.out j hj
       have e : (L.set k z).getD j 0 = L.getD j 0 := by simp [List.getD, List.getElem?_set_ne (fun e => hjk e.symm)]
       rw [e, this]
       by_cases hjk2 : j < k
       · rw [if_pos hjk2, if_pos (by omega)]
       · rw [if_neg hjk2, if_neg (by omega)]
    have hk1 : ∀ (W : World) (v : Value), RelAt W (w.heap.size + 1) (List.replicate 7 0) → RelAt (W.setCell ⟨w.heap.size, k, none⟩ v) (w.heap.size + 1) (List.replicate 7 0) := fun W v h =>
     ((grown_setCell7 W w.heap.size k v).block _ h.lt (by simp)).trans h
    have HK : Hid _ := hk1
    clear hk1
    by_cases hbit : bit m k = true
    · rw [if_pos hbit] at hbt
      have hmk : mkAt x f m k = bits .or .i64 (bits .andNot .i64 x f) f := by rw [mkAt, if_pos hbit]; rfl
      have HM : Hid _ := hmk
      clear hmk
      go_wp2
      go_roundw
      case rel =>
       refine ⟨k + 1, _, by omega, by go_num, ?_, ?_, (H0.out.set k _).set k _, HK.out _ _ (HK.out _ _ H2.out), (hb.setCell (Nat.le_refl _) _).setCell (Nat.le_refl _) _⟩
       · simpa using hL
       · rw [List.set_set]; exact HG.out _ HM.out.symm
      case measure => simp [intOf]; omega
    · rw [if_neg hbit] at hbt
      have hmk : mkAt x f m k = bits .andNot .i64 x f := by rw [mkAt, if_neg hbit]; rfl
      have HM : Hid _ := hmk
      clear hmk
      go_wp2
      go_roundw
      case rel =>
       refine ⟨k + 1, _, by omega, by go_num, ?_, ?_, (H0.out.set k _), (HK.out _ _ H2.out), (hb.setCell (Nat.le_refl _) _)⟩
       · simpa using hL
       · exact HG.out _ HM.out.symm
      case measure => simp [intOf]; omega
  · have hkk : k = 7 := by omega
    subst hkk
    have hLd : L = zs := list7 hL hz7 (fun j hj => by rw [hLg j hj, if_pos hj, HZ.out j hj])
    subst hLd
    have H0 : Hid (RelAt wr w.heap.size L) := b0
    have h7t : wr.there (w.heap.size + 1) 0 7 := by simpa using b2.there
    have HT : Hid _ := h7t
    clear b0 b2 hLg HZ h7t
    go_wp2_with (first | refine wpList_loadRel rfl (.tmp 3) rfl w.heap.size 0 L rfl hL H0.out.range ?_ | refine wpList_storeRel rfl rfl (.tmp 6) (.tmp 32) rfl (w.heap.size + 1) 0 L rfl rfl hL HT.out ?_)
    refine bodyPost_cellR rfl (w.heap.size + 1) 0 (ints L) _ rfl (World.rangeAt_setCells_same _ _ _ _ (by rw [ints_length, hL]; exact HT.out)) relUnd rfl (by rw [relInfo]; simp [ints, hL]) rfl ⟨rfl, ?_⟩
    exact hb.grown (grown_setCells7 _ _ _ _) (by have := hb.size; omega) (fun k hk => by simp at hk; omega)

/-- The facts of a set alone, each by itself. -/
def onlyL (s : Int) : List Int := unitL.map (fun x => bits .and .i64 x s)

theorem onlyL_getD (s : Int) (j : Nat) (hj : j < 7) : (onlyL s).getD j 0 = bits .and .i64 (unitL.getD j 0) s := by
 have hu : unitL.length = 7 := rfl
 simp [onlyL, List.getD, hu, hj]

theorem themselves (s : Int) (w : World) :
 Calls Try.prog 138 #[.int .i64 s] w fun e w' => e = .returned (relV (onlyL s)) ∧ Below w.heap.size w w' := by
 have hun := fun W => implUnit W
 obtain ⟨us, hus⟩ : ∃ us, unitL = us := ⟨_, rfl⟩
 have hu7 : us.length = 7 := by rw [← hus]; rfl
 obtain ⟨zs, hzs⟩ : ∃ zs, onlyL s = zs := ⟨_, rfl⟩
 have hz7 : zs.length = 7 := by rw [← hzs]; rfl
 have hzg : ∀ j, j < 7 → zs.getD j 0 = bits .and .i64 (us.getD j 0) s := fun j hj => by rw [← hzs, ← hus]; exact onlyL_getD s j hj
 have HZ : Hid (∀ j, j < 7 → zs.getD j 0 = bits .and .i64 (us.getD j 0) s) := hzg
 rw [hzs]
 rw [hus] at hun
 clear hzs hzg hus
 go_enter Try.func138, Try.ntmps138
 go_wp2_with fail
 go_at_call 142
 refine (hun _).mono ?_
 rintro e w1 ⟨a, rfl, oa, b1⟩
 clear hun
 have B2 : RelAt w1 w.heap.size (List.replicate 7 0) := by
  refine (b1.block _ (by simp)).trans ?_
  rw [zeros7]
  exact heap_alloc_new w _
 have L1 : Below w.heap.size w w1 := by
  have hb0 : Below w.heap.size w (w.alloc (.cells #[.int .i64 0, .int .i64 0, .int .i64 0, .int .i64 0, .int .i64 0, .int .i64 0, .int .i64 0] 64)) := by go_grown
  exact hb0.trans (b1.mono hb0.size)
 obtain ⟨g, off, cap, rfl, hrg⟩ := reads_range (reads_own oa) hu7
 have HG : Hid (w1.rangeAt g off (ints us)) := hrg
 have H2 : Hid (RelAt w1 w.heap.size (List.replicate 7 0)) := B2
 clear hrg B2 oa b1
 have hst : (w1.alloc (.cells (ints (List.replicate 7 0)).toArray 64)).there w1.heap.size 0 7 := by
  have : RelAt (w1.alloc (.cells (ints (List.replicate 7 0)).toArray 64)) w1.heap.size (List.replicate 7 0) := heap_alloc_new w1 _
  simpa using this.there
 rw [← zeros7] at hst
 have HS : Hid _ := hst
 clear hst
 go_wp2_with (first
  | refine wpList_arrayAt rfl (.tmp 5) rfl g off cap rfl ?_
  | refine wpList_loadRel rfl (.tmp 6) rfl g off us rfl hu7 HG.out ?_
  | refine wpList_storeRel rfl rfl (.tmp 3) (.tmp 7) rfl w1.heap.size 0 us rfl rfl hu7 HS.out ?_)
 have s1 := L1.size
 have B0 : RelAt ((w1.alloc (.cells (ints (List.replicate 7 0)).toArray 64)).setCells w1.heap.size 0 (ints us)) w1.heap.size us :=
  RelAt.store (heap_alloc_new w1 _) (by simpa using hu7)
 have B2 : RelAt ((w1.alloc (.cells (ints (List.replicate 7 0)).toArray 64)).setCells w1.heap.size 0 (ints us)) w.heap.size (List.replicate 7 0) := by
  refine ((grown_setCells7 _ _ _ _).block _ (by have := H2.out.lt; simp; omega) (by have := H2.out.lt; simp; omega)).trans ?_
  rw [old_block H2.out.lt]
  exact H2.out
 have L2 : Below w.heap.size w ((w1.alloc (.cells (ints (List.replicate 7 0)).toArray 64)).setCells w1.heap.size 0 (ints us)) := by
  have hb1 : Below w.heap.size w1 (w1.alloc (.cells (ints (List.replicate 7 0)).toArray 64)) := by go_grown
  exact (L1.trans hb1).grown (grown_setCells7 _ _ _ _) (L1.trans hb1).size (fun k hk => by simp at hk; omega)
 have hlt1 := H2.out.lt
 clear HG HS H2
 rw [zeros7]
 generalize (w1.alloc (.cells (ints (List.replicate 7 0)).toArray 64)).setCells w1.heap.size 0 (ints us) = W2 at B0 B2 L2 ⊢
 generalize hB : w1.heap.size = B at *
 have hBn : B ≠ w.heap.size := by omega
 clear hB L1
 go_wp2_with fail
 go_loopw [8] (fun i wr => ∃ (k : Nat) (L : List Int), k ≤ 7 ∧ i = .int .i64 k ∧ L.length = 7 ∧ (∀ j, j < 7 → L.getD j 0 = if j < k then bits .and .i64 (us.getD j 0) s else us.getD j 0) ∧
  RelAt wr B L ∧ RelAt wr w.heap.size (List.replicate 7 0) ∧ Below w.heap.size w wr) (fun i _ => 7 - (intOf i).toNat)
 case atStart => exact ⟨0, us, by omega, rfl, hu7, fun j _ => by simp, B0, B2, L2⟩
 case round =>
  obtain ⟨k, L, hk, rfl, hL, hLg, b0, b2, hb⟩ := hrel
  clear B0 B2 L2
  by_cases hlt : k < 7
  · have hlt' : (k : Int) < 7 := by omega
    obtain ⟨c0, f0⟩ := b0.cell k (by omega)
    have e0 : L.getD k 0 = us.getD k 0 := by
     have := hLg k hlt
     rw [if_neg (by omega)] at this
     exact this
    rw [e0] at c0
    have H0 : Hid (RelAt wr B L) := b0
    have H2 : Hid (RelAt wr w.heap.size (List.replicate 7 0)) := b2
    have HL : Hid (∀ j, j < 7 → L.getD j 0 = if j < k then bits .and .i64 (us.getD j 0) s else us.getD j 0) := hLg
    clear b0 b2 hLg e0
    obtain ⟨x, hx⟩ : ∃ x, us.getD k 0 = x := ⟨_, rfl⟩
    have HX : Hid (us.getD k 0 = x) := hx
    rw [hx] at c0
    clear hx
    go_wp2
    go_roundw
    case rel =>
     refine ⟨k + 1, L.set k (bits .and .i64 x s), by omega, by go_num, by simpa using hL, fun j hj => ?_, H0.out.set k _, ((grown_setCell7 wr B k _).block _ H2.out.lt (by simp; omega)).trans H2.out, hb.setCell (by omega) _⟩
     by_cases hjk : j = k
     · subst hjk
       rw [if_pos (by omega), HX.out]
       simp [List.getD, hL, hj]
     · have := HL.out j hj
       have e : (L.set k (bits .and .i64 x s)).getD j 0 = L.getD j 0 := by simp [List.getD, List.getElem?_set_ne (fun e => hjk e.symm)]
       rw [e, this]
       by_cases hjk2 : j < k
       · rw [if_pos hjk2, if_pos (by omega)]
       · rw [if_neg hjk2, if_neg (by omega)]
    case measure => simp [intOf]; omega
  · have hkk : k = 7 := by omega
    subst hkk
    have hLd : L = zs := list7 hL hz7 (fun j hj => by rw [hLg j hj, if_pos hj, HZ.out j hj])
    subst hLd
    have H0 : Hid (RelAt wr B L) := b0
    have h7t : wr.there w.heap.size 0 7 := by simpa using b2.there
    have HT : Hid _ := h7t
    clear b0 b2 hLg HZ h7t
    go_wp2_with (first | refine wpList_loadRel rfl (.tmp 3) rfl B 0 L rfl hL H0.out.range ?_ | refine wpList_storeRel rfl rfl (.tmp 2) (.tmp 18) rfl w.heap.size 0 L rfl rfl hL HT.out ?_)
    refine bodyPost_cellR rfl w.heap.size 0 (ints L) _ rfl (World.rangeAt_setCells_same _ _ _ _ (by rw [ints_length, hL]; exact HT.out)) relUnd rfl (by rw [relInfo]; simp [ints, hL]) rfl ⟨rfl, ?_⟩
    exact hb.grown (grown_setCells7 _ _ _ _) (by have := hb.size; omega) (fun k hk => by simp at hk; omega)

end Go.Proofs.Ytnjbihfceckpfaa

/-
 Chapter 7, the program's side: Enter, Leave, Keep, Start, Flow.
-/
namespace Go.Proofs.Ytnjbihfceckpfaa
set_option maxRecDepth 20000
open Go.RowKit
set_option linter.unusedVariables false
set_option maxHeartbeats 1000000

def leaveL : List Int := [1, 2, 4, 8, 0, 0, 0]
def keepL : List Int := [1, 0, 0, 0, 16, 32, 64]
def enterAns (c : Int) : List Int := if c = 1 then leaveL else if c = 2 then [113, 2, 4, 8, 0, 0, 0] else []
def startAns (c : Int) : Int := if c = 1 then 1 else if c = 2 then 127 else -1

theorem implStart (c : Int) (w : World) : Calls Try.prog 89 #[.int .i64 c] w fun e w' => e = .returned (.int .i64 (startAns c)) ∧ Below w.heap.size w w' := by
 by_cases h1 : c = 1
 · subst h1
   go_enter Try.func89, Try.ntmps89
   go_wp2
   go_ret
   exact ⟨rfl, Below.refl _ _⟩
 · by_cases h2 : c = 2
   · subst h2
     go_enter Try.func89, Try.ntmps89
     go_wp2
     go_ret
     exact ⟨rfl, Below.refl _ _⟩
   · go_enter Try.func89, Try.ntmps89
     go_wp2
     go_ret
     exact ⟨by simp [startAns, h1, h2], Below.refl _ _⟩

theorem only15 : onlyL 15 = leaveL := by decide
theorem only113 : onlyL 113 = keepL := by decide

/-- Seven cells that are new, and what is stored there. -/
abbrev fresh7 (w : World) : World := w.alloc (.cells #[.int .i64 0, .int .i64 0, .int .i64 0, .int .i64 0, .int .i64 0, .int .i64 0, .int .i64 0] 64)

theorem fresh_at (w : World) : RelAt (fresh7 w) w.heap.size (List.replicate 7 0) := heap_alloc_new w _

theorem fresh_there (w : World) : (fresh7 w).there w.heap.size 0 7 := by simpa using (fresh_at w).there

theorem fresh_rel (w : World) (zs : List Int) (h : zs.length = 7) : RelAt ((fresh7 w).setCells w.heap.size 0 (ints zs)) w.heap.size zs := RelAt.store (fresh_at w) (by simpa using h)

theorem fresh_below {base : Nat} {w0 w : World} (hb : Below base w0 w) (h : base ≤ w.heap.size) (vs : List Value) : Below base w0 ((fresh7 w).setCells w.heap.size 0 vs) := by
 have h1 : Below base w0 (fresh7 w) := hb.alloc h _
 exact h1.grown (grown_setCells7 _ _ _ _) (by simp; omega) (fun k hk => by simp at hk; omega)

theorem implLeave (w : World) : Calls Try.prog 127 #[] w fun e w' => ∃ a, e = .returned a ∧ w'.ownsRow w.heap.size 64 1 a leaveL.length (ints leaveL) ∧ Below w.heap.size w w' := by
 have hth := fun W => themselves 15 W
 rw [only15] at hth
 obtain ⟨zs, hzs⟩ : ∃ zs, leaveL = zs := ⟨_, rfl⟩
 have hz7 : zs.length = 7 := by rw [← hzs]; rfl
 rw [hzs] at hth ⊢
 clear hzs
 go_enter Try.func127, Try.ntmps127
 go_wp2_with fail
 go_at_call 138
 refine (hth _).mono ?_
 rintro e w1 ⟨rfl, b1⟩
 clear hth
 have hst := fresh_there w1
 have HS : Hid _ := hst
 clear hst
 go_wp2_with (refine wpList_storeRel rfl rfl (.tmp 1) (.tmp 2) rfl w1.heap.size 0 zs rfl rfl hz7 HS.out ?_)
 go_ret
 exact ⟨_, rfl, by rw [hz7]; exact RelAt.own (fresh_rel w1 zs hz7) b1.size hz7, fresh_below b1 b1.size _⟩

theorem implKeep (w : World) : Calls Try.prog 128 #[] w fun e w' => ∃ a, e = .returned a ∧ w'.ownsRow w.heap.size 64 1 a keepL.length (ints keepL) ∧ Below w.heap.size w w' := by
 have hth := fun W => themselves 113 W
 rw [only113] at hth
 obtain ⟨zs, hzs⟩ : ∃ zs, keepL = zs := ⟨_, rfl⟩
 have hz7 : zs.length = 7 := by rw [← hzs]; rfl
 rw [hzs] at hth ⊢
 clear hzs
 go_enter Try.func128, Try.ntmps128
 go_wp2_with fail
 go_at_call 138
 refine (hth _).mono ?_
 rintro e w1 ⟨rfl, b1⟩
 clear hth
 have hst := fresh_there w1
 have HS : Hid _ := hst
 clear hst
 go_wp2_with (refine wpList_storeRel rfl rfl (.tmp 1) (.tmp 2) rfl w1.heap.size 0 zs rfl rfl hz7 HS.out ?_)
 go_ret
 exact ⟨_, rfl, by rw [hz7]; exact RelAt.own (fresh_rel w1 zs hz7) b1.size hz7, fresh_below b1 b1.size _⟩

theorem implEnter (c : Int) (w : World) : Calls Try.prog 113 #[.int .i64 c] w fun e w' => ∃ a, e = .returned a ∧ w'.ownsRow w.heap.size 64 1 a (enterAns c).length (ints (enterAns c)) ∧ Below w.heap.size w w' := by
 have hth := fun W => themselves 15 W
 rw [only15] at hth
 obtain ⟨zs, hzs⟩ : ∃ zs, leaveL = zs := ⟨_, rfl⟩
 have hz7 : zs.length = 7 := by rw [← hzs]; rfl
 rw [hzs] at hth
 by_cases h1 : c = 1
 · have he : enterAns c = zs := by simp [enterAns, h1, hzs]
   rw [he]
   subst h1
   clear he hzs
   go_enter Try.func113, Try.ntmps113
   go_wp2_with fail
   go_at_call 138
   refine (hth _).mono ?_
   rintro e w1 ⟨rfl, b1⟩
   clear hth
   have hst := fresh_there w1
   have HS : Hid _ := hst
   clear hst
   go_wp2_with (refine wpList_storeRel rfl rfl (.tmp 3) (.tmp 4) rfl w1.heap.size 0 zs rfl rfl hz7 HS.out ?_)
   go_ret
   exact ⟨_, rfl, by rw [hz7]; exact RelAt.own (fresh_rel w1 zs hz7) b1.size hz7, fresh_below b1 b1.size _⟩
 · by_cases h2 : c = 2
   · have he : enterAns c = zs.set 0 113 := by rw [← hzs]; simp [enterAns, h2, leaveL]
     have hc0 : zs.getD 0 0 = 1 := by rw [← hzs]; rfl
     rw [he]
     subst h2
     clear he hzs
     go_enter Try.func113, Try.ntmps113
     go_wp2_with fail
     go_at_call 138
     refine (hth _).mono ?_
     rintro e w1 ⟨rfl, b1⟩
     clear hth
     have hst := fresh_there w1
     have HS : Hid _ := hst
     have B0 := fresh_rel w1 zs hz7
     have L0 := fresh_below b1 b1.size (ints zs)
     obtain ⟨c0, f0⟩ := B0.cell 0 (by omega)
     rw [hc0] at c0
     have H0 : Hid _ := B0
     clear hst B0
     go_wp2_with (refine wpList_storeRel rfl rfl (.tmp 3) (.tmp 4) rfl w1.heap.size 0 zs rfl rfl hz7 HS.out ?_)
     go_ret
     exact ⟨_, rfl, by have e : (zs.set 0 113).length = 7 := by simpa using hz7
                       rw [e]; exact RelAt.own (RelAt.set H0.out 0 113) b1.size e, L0.setCell b1.size _⟩
   · have he : enterAns c = [] := by simp [enterAns, h1, h2]
     rw [he]
     clear he hzs
     go_enter Try.func113, Try.ntmps113
     go_wp2_with fail
     go_at_call 138
     refine (hth _).mono ?_
     rintro e w1 ⟨rfl, b1⟩
     clear hth
     have hst := fresh_there w1
     have HS : Hid _ := hst
     clear hst
     go_wp2_with (refine wpList_storeRel rfl rfl (.tmp 3) (.tmp 4) rfl w1.heap.size 0 zs rfl rfl hz7 HS.out ?_)
     go_ret
     exact ⟨_, rfl, ⟨rfl, .inl ⟨rfl, rfl⟩⟩, fresh_below b1 b1.size _⟩

/-- A client's flows, as a value. -/
def flowsV (m : Nat) : Value := .agg #[.func (.func 105) #[] #[], .func (.func 106) #[] #[], .func (.func 107) #[] #[], .func (.func m) #[] #[]]

theorem flowsOf1 (w : World) : Calls Try.prog 75 #[.int .i64 1] w fun e w' => e = .returned (.tuple #[flowsV 108, .bool true]) ∧ Below w.heap.size w w' := by
 go_enter Try.func75, Try.ntmps75
 go_wp2
 go_returns
 exact ⟨rfl, by go_grown⟩

theorem flowsOf2 (w : World) : Calls Try.prog 75 #[.int .i64 2] w fun e w' => e = .returned (.tuple #[flowsV 107, .bool true]) ∧ Below w.heap.size w w' := by
 go_enter Try.func75, Try.ntmps75
 go_wp2
 go_returns
 exact ⟨rfl, by go_grown⟩

theorem flowsOfNo (c : Int) (h1 : ¬ c = 1) (h2 : ¬ c = 2) (w : World) : Calls Try.prog 75 #[.int .i64 c] w fun e w' => e = .returned (.tuple #[.agg #[.nilFunc, .nilFunc, .nilFunc, .nilFunc], .bool false]) ∧ Below w.heap.size w w' := by
 go_enter Try.func75, Try.ntmps75
 go_wp2
 go_returns
 exact ⟨rfl, by go_grown⟩

theorem factOfY (k x : Int) (y : Nat) (hy : y < 6) (w : World) : Calls Try.prog 105 #[.agg #[.int .i64 k, .int .i64 x, .int .i64 y]] w fun e w' => e = .returned (.int .i64 (factN y)) ∧ Below w.heap.size w w' := by
 have hf := fun W => factOf y hy W
 go_enter Try.func105, Try.ntmps105
 go_wp2_with fail
 go_at_call 59
 refine (hf _).mono ?_
 rintro e w1 ⟨rfl, rfl⟩
 go_wp2
 go_ret
 exact ⟨rfl, by go_grown⟩

theorem factsOfXAndY (k : Int) (x y : Nat) (hx : x < 6) (hy : y < 6) (w : World) : Calls Try.prog 106 #[.agg #[.int .i64 k, .int .i64 x, .int .i64 y]] w fun e w' => e = .returned (.int .i64 (lor (factN x) (factN y))) ∧ Below w.heap.size w w' := by
 have hf := fun W => factOf x hx W
 have hg := fun W => factOf y hy W
 go_enter Try.func106, Try.ntmps106
 go_wp2_with fail
 go_region_with (first
  | (go_at_call 59; refine (hf _).mono ?_; rintro e w1 ⟨rfl, rfl⟩)
  | (go_at_call 59; refine (hg _).mono ?_; rintro e w1 ⟨rfl, rfl⟩))
 all_goals
  go_wp2
  go_ret
  exact ⟨rfl, by go_grown⟩

theorem noFact (k x y : Int) (w : World) : Calls Try.prog 107 #[.agg #[.int .i64 k, .int .i64 x, .int .i64 y]] w fun e w' => e = .returned (.int .i64 0) ∧ Below w.heap.size w w' := by
 go_enter Try.func107, Try.ntmps107
 go_wp2
 go_ret
 exact ⟨rfl, by go_grown⟩

theorem factThatAlwaysHolds (k x y : Int) (w : World) : Calls Try.prog 108 #[.agg #[.int .i64 k, .int .i64 x, .int .i64 y]] w fun e w' => e = .returned (.int .i64 1) ∧ Below w.heap.size w w' := by
 go_enter Try.func108, Try.ntmps108
 go_wp2
 go_ret
 exact ⟨rfl, by go_grown⟩

end Go.Proofs.Ytnjbihfceckpfaa
