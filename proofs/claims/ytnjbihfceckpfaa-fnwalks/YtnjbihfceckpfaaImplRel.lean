/-
 Chapter 6, the program's side: relation's methods; Image, Compose, Join, Within, Unit.
-/
import Derived.Test.YtnjbihfceckpfaaG06RelA
namespace Go.Proofs.Ytnjbihfceckpfaa
open Go.RowKit
set_option linter.unusedVariables false
set_option maxHeartbeats 1000000

theorem relImage (rs : List Int) (s : Int) (w : World) (hr : Smalls rs) (hs : Small s) :
 Calls Try.prog 115 #[relV rs, .int .i64 s] w fun e w' => e = .returned (.int .i64 (img rs s)) ∧ Below w.heap.size w w' := by
 have h7 := hr.1
 obtain ⟨cs, hcs⟩ : ∃ cs, ints rs = cs := ⟨_, rfl⟩
 unfold relV
 rw [hcs]
 go_enter Try.func115, Try.ntmps115
 subst hcs
 have HR := rangeR_new w (ints rs) 64
 go_wp2_with (refine wpList_loadRel rfl (.tmp 2) rfl w.heap.size 0 rs rfl h7 HR ?_)
 have B0 : Below w.heap.size w (w.alloc (.cells (ints rs).toArray 64)) := by go_grown
 go_loopw [5, 9] (fun n i wr => ∃ k : Nat, k ≤ 7 ∧ i = .int .i64 k ∧ n = .int .i64 (imgK rs s k) ∧ Below w.heap.size w wr) (fun _ i _ => 7 - (intOf i).toNat)
 case atStart => exact ⟨0, by omega, rfl, rfl, B0⟩
 case round =>
  obtain ⟨k, hk, rfl, rfl, hb⟩ := hrel
  by_cases hlt : k < 7
  · have hlt' : (k : Int) < 7 := by omega
    have hbt := bit_and k hs
    have HI : Hid (imgK rs s (k + 1) = if bit s k = true then lor (imgK rs s k) (rs.getD k 0) else imgK rs s k) := by exact rfl
    clear HR B0
    obtain ⟨y, hy⟩ : ∃ y, rs.getD k 0 = y := ⟨_, rfl⟩
    rw [hy] at HI
    have HY : Hid _ := hy
    clear hy
    generalize imgK rs s k = z at *
    by_cases hbit : bit s k = true
    · rw [if_pos hbit] at hbt
      have HI2 := HI.out
      rw [if_pos hbit] at HI2
      have HI3 : Hid _ := HI2
      clear HI HI2
      go_wp2_with (refine wpList_indexRel rfl (.tmp 8) (.tmp 9) rfl rs k rfl rfl h7 hlt y HY.out ?_)
      go_roundw
      case rel => exact ⟨k + 1, by omega, by go_num, by rw [HI3.out]; rfl, hb⟩
      case measure => simp [intOf]; omega
    · rw [if_neg hbit] at hbt
      have HI2 := HI.out
      rw [if_neg hbit] at HI2
      have HI3 : Hid _ := HI2
      clear HI HI2
      go_wp2_with (refine wpList_indexRel rfl (.tmp 8) (.tmp 9) rfl rs k rfl rfl h7 hlt y HY.out ?_)
      go_roundw
      case rel => exact ⟨k + 1, by omega, by go_num, by rw [HI3.out], hb⟩
      case measure => simp [intOf]; omega
  · have hkk : k = 7 := by omega
    subst hkk
    go_wp2
    go_ret
    exact ⟨rfl, hb⟩

theorem heap_setCells7 (b : Nat) (t : TypeId) : ∀ (vs : List Value) (o : Nat) (w : World) (C : Array Value), w.heap[b]? = some (.cells C t (0, 0)) → ∃ C' : Array Value, (w.setCells b o vs).heap[b]? = some (.cells C' t (0, 0)) ∧ C'.size = C.size
 | [], o, w, C, h => ⟨C, h, rfl⟩
 | v :: r, o, w, C, h => by
  rw [World.setCells]
  obtain ⟨C', h1, h2⟩ := heap_setCells7 b t r (o + 1) _ _ (heap_setCell_same w b o C t v h)
  exact ⟨C', h1, by simpa using h2⟩

theorem RelAt.store {w : World} {B : Nat} {xs zs : List Int} (h : RelAt w B xs) (hl : zs.length = xs.length) : RelAt (w.setCells B 0 (ints zs)) B zs := by
 obtain ⟨C, hC, hs⟩ := heap_setCells7 B 64 (ints zs) 0 w _ h
 have hr := World.rangeAt_setCells_same w B 0 (ints zs) (by rw [ints_length, hl]; exact h.there)
 rw [RelAt, hC]
 congr 2
 refine Array.ext' ?_
 have hs' : C.size = xs.length := by rw [hs, List.size_toArray, ints_length]
 refine List.ext_getElem (by rw [Array.length_toList, hs', List.toList_toArray, ints_length, hl]) (fun j h1 h2 => ?_)
 have h3 := hr j (ints zs)[j] (by simp)
 rw [Nat.zero_add, cell_of_row _ B j C _ (0, 0) hC] at h3
 have h4 : C[j]? = some C[j] := Array.getElem?_eq_getElem (by simpa using h1)
 rw [h4] at h3
 simpa using h3

theorem zeros7 : (#[.int .i64 0, .int .i64 0, .int .i64 0, .int .i64 0, .int .i64 0, .int .i64 0, .int .i64 0] : Array Value) = (ints (List.replicate 7 0)).toArray := rfl

theorem grown_setCell7 (w : World) (b o : Nat) (v : Value) : w.grownBy (w.setCell ⟨b, o, none⟩ v) (some b) :=
 ⟨rfl, rfl, rfl, by simp [World.setCell], fun k _ hk => Below.heap_setCell w ⟨b, o, none⟩ v k (fun e => hk (by rw [e]))⟩

theorem grown_setCells7 (b : Nat) : ∀ (vs : List Value) (o : Nat) (w : World), w.grownBy (w.setCells b o vs) (some b)
 | [], _, w => World.grownBy.refl _ _
 | v :: r, o, w => by
  rw [World.setCells]
  exact grown_trans (grown_setCell7 w b o v) (grown_setCells7 b r (o + 1) _)

theorem relOr (xs ys : List Int) (w : World) (hr : Smalls xs) (hs : Smalls ys) :
 Calls Try.prog 118 #[relV xs, relV ys] w fun e w' => e = .returned (relV (joi xs ys)) ∧ Below w.heap.size w w' := by
 have hx7 := hr.1
 have hy7 := hs.1
 obtain ⟨zs, hzs⟩ : ∃ zs, joi xs ys = zs := ⟨_, rfl⟩
 have hz7 : zs.length = 7 := by rw [← hzs]; simp [joi, hx7, hy7]
 have hzg : ∀ j, j < 7 → zs.getD j 0 = lor (xs.getD j 0) (ys.getD j 0) := fun j hj => by
  rw [← hzs]
  simp [joi, List.getD, hx7, hy7, hj]
 rw [hzs]
 have HZ : Hid (∀ j, j < 7 → zs.getD j 0 = lor (xs.getD j 0) (ys.getD j 0)) := hzg
 clear hzs hzg
 obtain ⟨cs, hcs⟩ : ∃ cs, ints xs = cs := ⟨_, rfl⟩
 obtain ⟨ds, hds⟩ : ∃ cs, ints ys = cs := ⟨_, rfl⟩
 unfold relV
 rw [hcs, hds]
 go_enter Try.func118, Try.ntmps118
 subst hcs hds
 have hr1 := World.rangeAt_alloc (rangeR_new (w.alloc (.cells (ints xs).toArray 64)) (ints ys) 64) (.cells (ints (List.replicate 7 0)).toArray 64)
 have hss : (w.alloc (.cells (ints xs).toArray 64)).heap.size = w.heap.size + 1 := by simp
 rw [hss] at hr1
 have HR1 : Hid _ := hr1
 clear hr1 hss
 go_wp2_with (refine wpList_loadRel rfl (.tmp 3) rfl (w.heap.size + 1) 0 ys rfl hy7 HR1.out ?_)
 clear HR1
 rw [zeros7]
 obtain ⟨W3, hW3⟩ : ∃ W3, ((w.alloc (.cells (ints xs).toArray 64)).alloc (.cells (ints ys).toArray 64)).alloc (.cells (ints (List.replicate 7 0)).toArray 64) = W3 := ⟨_, rfl⟩
 have B0 : RelAt W3 w.heap.size xs := by
  rw [RelAt, ← hW3, old_block (by simp; omega), old_block (by simp)]; exact heap_alloc_new w _
 have B2 : RelAt W3 (w.heap.size + 1 + 1) (List.replicate 7 0) := by
  rw [RelAt, ← hW3]
  have := heap_alloc_new ((w.alloc (.cells (ints xs).toArray 64)).alloc (.cells (ints ys).toArray 64)) (.cells (ints (List.replicate 7 0)).toArray 64)
  simpa using this
 have L0 : Below w.heap.size w W3 := by rw [← hW3]; go_grown
 rw [hW3]
 clear hW3
 go_loopw [8] (fun i wr => ∃ (k : Nat) (L : List Int), k ≤ 7 ∧ i = .int .i64 k ∧ L.length = 7 ∧ (∀ j, j < 7 → L.getD j 0 = if j < k then lor (xs.getD j 0) (ys.getD j 0) else xs.getD j 0) ∧
  RelAt wr w.heap.size L ∧ RelAt wr (w.heap.size + 1 + 1) (List.replicate 7 0) ∧ Below w.heap.size w wr) (fun i _ => 7 - (intOf i).toNat)
 case atStart => exact ⟨0, xs, by omega, rfl, hx7, fun j _ => by simp, B0, B2, L0⟩
 case round =>
  obtain ⟨k, L, hk, rfl, hL, hLg, b0, b2, hb⟩ := hrel
  clear B0 B2 L0
  by_cases hlt : k < 7
  · have hlt' : (k : Int) < 7 := by omega
    obtain ⟨c0, f0⟩ := b0.cell k (by omega)
    have e0 : L.getD k 0 = xs.getD k 0 := by
     have := hLg k hlt
     rw [if_neg (by omega)] at this
     exact this
    rw [e0] at c0
    have H0 : Hid (RelAt wr w.heap.size L) := b0
    have H2 : Hid (RelAt wr (w.heap.size + 1 + 1) (List.replicate 7 0)) := b2
    have HL : Hid (∀ j, j < 7 → L.getD j 0 = if j < k then lor (xs.getD j 0) (ys.getD j 0) else xs.getD j 0) := hLg
    clear b0 b2 hLg e0
    obtain ⟨x, hx⟩ : ∃ x, xs.getD k 0 = x := ⟨_, rfl⟩
    obtain ⟨y, hy⟩ : ∃ y, ys.getD k 0 = y := ⟨_, rfl⟩
    have HX : Hid (xs.getD k 0 = x) := hx
    have HY : Hid (ys.getD k 0 = y) := hy
    rw [hx] at c0
    clear hx hy
    go_wp2_with (refine wpList_indexRel rfl (.tmp 7) (.tmp 8) rfl ys k rfl rfl hy7 hlt y HY.out ?_)
    go_roundw
    case rel =>
     refine ⟨k + 1, L.set k (lor x y), by omega, by go_num, by simpa using hL, fun j hj => ?_, H0.out.set k (lor x y), ((grown_setCell7 wr w.heap.size k (.int .i64 (lor x y))).block _ H2.out.lt (by simp; omega)).trans H2.out, hb.setCell (Nat.le_refl _) _⟩
     by_cases hjk : j = k
     · subst hjk
       rw [if_pos (by omega), HX.out, HY.out]
       simp [List.getD, hL, hj]
     · have := HL.out j hj
       have e : (L.set k (lor x y)).getD j 0 = L.getD j 0 := by simp [List.getD, List.getElem?_set_ne (fun e => hjk e.symm)]
       rw [e, this]
       by_cases hjk2 : j < k
       · rw [if_pos hjk2, if_pos (by omega)]
       · rw [if_neg hjk2, if_neg (by omega)]
    case measure => simp [intOf]; omega
  · have hkk : k = 7 := by omega
    subst hkk
    have hLd : L = zs := list7 hL hz7 (fun j hj => by rw [hLg j hj, if_pos hj, HZ.out j hj])
    subst hLd
    have H0 : Hid (RelAt wr w.heap.size L) := b0
    have H2 : Hid (RelAt wr (w.heap.size + 1 + 1) (List.replicate 7 0)) := b2
    have h7t : wr.there (w.heap.size + 1 + 1) 0 7 := by simpa using b2.there
    have HT : Hid _ := h7t
    clear b0 b2 hLg HZ h7t
    go_wp2_with (first | refine wpList_loadRel rfl (.tmp 2) rfl w.heap.size 0 L rfl hL H0.out.range ?_ | refine wpList_storeRel rfl rfl (.tmp 4) (.tmp 19) rfl (w.heap.size + 1 + 1) 0 L rfl rfl hL HT.out ?_)
    refine bodyPost_cellR rfl (w.heap.size + 1 + 1) 0 (ints L) _ rfl (World.rangeAt_setCells_same _ _ _ _ (by rw [ints_length, hL]; exact HT.out)) relUnd rfl (by rw [relInfo]; simp [ints, hL]) rfl ⟨rfl, ?_⟩
    exact hb.grown (grown_setCells7 _ _ _ _) (by have := hb.size; omega) (fun k hk => by simp at hk; omega)

theorem relEach (xs ys : List Int) (w : World) (hr : Smalls xs) (hs : Smalls ys) :
 Calls Try.prog 149 #[relV xs, .func (.func 115) #[relV ys] #[]] w fun e w' => e = .returned (relV (comp xs ys)) ∧ Below w.heap.size w w' := by
 have hx7 := hr.1
 have hy7 := hs.1
 obtain ⟨zs, hzs⟩ : ∃ zs, comp xs ys = zs := ⟨_, rfl⟩
 have hz7 : zs.length = 7 := by rw [← hzs]; simp [comp, hx7]
 have hzg : ∀ j, j < 7 → zs.getD j 0 = img ys (xs.getD j 0) := fun j hj => by
  rw [← hzs]
  simp [comp, List.getD, hx7, hj]
 rw [hzs]
 have HZ : Hid (∀ j, j < 7 → zs.getD j 0 = img ys (xs.getD j 0)) := hzg
 clear hzs hzg
 obtain ⟨cs, hcs⟩ : ∃ cs, ints xs = cs := ⟨_, rfl⟩
 obtain ⟨yv, hyv⟩ : ∃ yv, relV ys = yv := ⟨_, rfl⟩
 rw [hyv]
 unfold relV
 rw [hcs]
 go_enter Try.func149, Try.ntmps149
 subst hcs
 have hr1 := World.rangeAt_alloc (rangeR_new w (ints xs) 64) (.cells (ints (List.replicate 7 0)).toArray 64)
 have HR1 : Hid _ := hr1
 clear hr1
 go_wp2_with (refine wpList_loadRel rfl (.tmp 2) rfl w.heap.size 0 xs rfl hx7 HR1.out ?_)
 clear HR1
 rw [zeros7]
 obtain ⟨W3, hW3⟩ : ∃ W3, (w.alloc (.cells (ints xs).toArray 64)).alloc (.cells (ints (List.replicate 7 0)).toArray 64) = W3 := ⟨_, rfl⟩
 have B0 : RelAt W3 w.heap.size xs := by
  rw [RelAt, ← hW3, old_block (by simp)]; exact heap_alloc_new w _
 have B2 : RelAt W3 (w.heap.size + 1) (List.replicate 7 0) := by
  rw [RelAt, ← hW3]
  have := heap_alloc_new (w.alloc (.cells (ints xs).toArray 64)) (.cells (ints (List.replicate 7 0)).toArray 64)
  simpa using this
 have L0 : Below w.heap.size w W3 := by rw [← hW3]; go_grown
 rw [hW3]
 clear hW3
 go_loopw [8] (fun i wr => ∃ (k : Nat) (L : List Int), k ≤ 7 ∧ i = .int .i64 k ∧ L.length = 7 ∧ (∀ j, j < 7 → L.getD j 0 = if j < k then img ys (xs.getD j 0) else xs.getD j 0) ∧
  RelAt wr w.heap.size L ∧ RelAt wr (w.heap.size + 1) (List.replicate 7 0) ∧ Below w.heap.size w wr) (fun i _ => 7 - (intOf i).toNat)
 case atStart => exact ⟨0, xs, by omega, rfl, hx7, fun j _ => by simp, B0, B2, L0⟩
 case round =>
  obtain ⟨k, L, hk, rfl, hL, hLg, b0, b2, hb⟩ := hrel
  clear B0 B2 L0
  by_cases hlt : k < 7
  · have hlt' : (k : Int) < 7 := by omega
    have H0 : Hid (RelAt wr w.heap.size L) := b0
    have H2 : Hid (RelAt wr (w.heap.size + 1) (List.replicate 7 0)) := b2
    have HL : Hid (∀ j, j < 7 → L.getD j 0 = if j < k then img ys (xs.getD j 0) else xs.getD j 0) := hLg
    clear b0 b2 hLg
    obtain ⟨x, hx⟩ : ∃ x, xs.getD k 0 = x := ⟨_, rfl⟩
    have hxs : Small x := by rw [← hx]; exact hr.getD k
    have HX : Hid (xs.getD k 0 = x) := hx
    clear hx
    have him := relImage ys x wr hs hxs
    rw [hyv] at him
    go_wp2_with (refine wpList_indexRel rfl (.tmp 7) (.tmp 8) rfl xs k rfl rfl hx7 hlt x HX.out ?_)
    go_at_call 115
    refine him.mono ?_
    rintro e w1 ⟨rfl, b1⟩
    clear him
    have s1 := b1.size
    have HB1 : Hid (RelAt w1 w.heap.size L) := (b1.block _ H0.out.lt).trans H0.out
    have HB2 : Hid (RelAt w1 (w.heap.size + 1) (List.replicate 7 0)) := (b1.block _ H2.out.lt).trans H2.out
    have L1 : Below w.heap.size w w1 := hb.trans (b1.mono hb.size)
    obtain ⟨c0, f0⟩ := HB1.out.cell k (by omega)
    go_wp2
    go_roundw
    case rel =>
     refine ⟨k + 1, L.set k (img ys x), by omega, by go_num, by simpa using hL, fun j hj => ?_, HB1.out.set k (img ys x), ((grown_setCell7 w1 w.heap.size k (.int .i64 (img ys x))).block _ HB2.out.lt (by simp)).trans HB2.out, L1.setCell (Nat.le_refl _) _⟩
     by_cases hjk : j = k
     · subst hjk
       rw [if_pos (by omega), HX.out]
       simp [List.getD, hL, hj]
     · have := HL.out j hj
       have e : (L.set k (img ys x)).getD j 0 = L.getD j 0 := by simp [List.getD, List.getElem?_set_ne (fun e => hjk e.symm)]
       rw [e, this]
       by_cases hjk2 : j < k
       · rw [if_pos hjk2, if_pos (by omega)]
       · rw [if_neg hjk2, if_neg (by omega)]
    case measure => simp [intOf]; omega
  · have hkk : k = 7 := by omega
    subst hkk
    have hLd : L = zs := list7 hL hz7 (fun j hj => by rw [hLg j hj, if_pos hj, HZ.out j hj])
    subst hLd
    have H0 : Hid (RelAt wr w.heap.size L) := b0
    have h7t : wr.there (w.heap.size + 1) 0 7 := by simpa using b2.there
    have HT : Hid _ := h7t
    clear b0 b2 hLg HZ h7t
    go_wp2_with (first | refine wpList_loadRel rfl (.tmp 2) rfl w.heap.size 0 L rfl hL H0.out.range ?_ | refine wpList_storeRel rfl rfl (.tmp 4) (.tmp 18) rfl (w.heap.size + 1) 0 L rfl rfl hL HT.out ?_)
    refine bodyPost_cellR rfl (w.heap.size + 1) 0 (ints L) _ rfl (World.rangeAt_setCells_same _ _ _ _ (by rw [ints_length, hL]; exact HT.out)) relUnd rfl (by rw [relInfo]; simp [ints, hL]) rfl ⟨rfl, ?_⟩
    exact hb.grown (grown_setCells7 _ _ _ _) (by have := hb.size; omega) (fun k hk => by simp at hk; omega)

theorem relThen (xs ys : List Int) (w : World) (hr : Smalls xs) (hs : Smalls ys) :
 Calls Try.prog 143 #[relV xs, relV ys] w fun e w' => e = .returned (relV (comp xs ys)) ∧ Below w.heap.size w w' := by
 have hx7 := hr.1
 have hy7 := hs.1
 have hev := fun W => relEach xs ys W hr hs
 obtain ⟨zs, hzs⟩ : ∃ zs, comp xs ys = zs := ⟨_, rfl⟩
 have hz7 : zs.length = 7 := by rw [← hzs]; simp [comp, hx7]
 rw [hzs] at hev ⊢
 clear hzs
 obtain ⟨cs, hcs⟩ : ∃ cs, ints xs = cs := ⟨_, rfl⟩
 obtain ⟨ds, hds⟩ : ∃ cs, ints ys = cs := ⟨_, rfl⟩
 have hmf : ∀ (fn : Fn) (first cap : Array Value) (w : World), (Instr.makeFunc fn first cap).run Try.prog w = .ok (.func fn first cap) w := fun _ _ _ _ => rfl
 unfold relV
 rw [hcs, hds]
 go_enter Try.func143, Try.ntmps143
 subst hcs hds
 have hr0 := World.rangeAt_alloc (World.rangeAt_alloc (rangeR_new w (ints xs) 64) (.cells (ints ys).toArray 64)) (.cells (ints (List.replicate 7 0)).toArray 64)
 have hr1 := World.rangeAt_alloc (rangeR_new (w.alloc (.cells (ints xs).toArray 64)) (ints ys) 64) (.cells (ints (List.replicate 7 0)).toArray 64)
 have hss : (w.alloc (.cells (ints xs).toArray 64)).heap.size = w.heap.size + 1 := by simp
 rw [hss] at hr1
 have HR0 : Hid _ := hr0
 have HR1 : Hid _ := hr1
 clear hr0 hr1 hss
 go_wp2_with (first
  | refine wpList_loadRel rfl (.tmp 2) rfl w.heap.size 0 xs rfl hx7 HR0.out ?_
  | refine wpList_loadRel rfl (.tmp 3) rfl (w.heap.size + 1) 0 ys rfl hy7 HR1.out ?_)
 refine (hev _).mono ?_
 rintro e w1 ⟨rfl, b1⟩
 clear HR0 HR1 hev
 have hb0 : Below w.heap.size w (((w.alloc (.cells (ints xs).toArray 64)).alloc (.cells (ints ys).toArray 64)).alloc (.cells #[.int .i64 0, .int .i64 0, .int .i64 0, .int .i64 0, .int .i64 0, .int .i64 0, .int .i64 0] 64)) := by go_grown
 have b2 : RelAt w1 (w.heap.size + 1 + 1) (List.replicate 7 0) := by
  have := heap_alloc_new ((w.alloc (.cells (ints xs).toArray 64)).alloc (.cells (ints ys).toArray 64)) (.cells #[.int .i64 0, .int .i64 0, .int .i64 0, .int .i64 0, .int .i64 0, .int .i64 0, .int .i64 0] 64)
  rw [zeros7] at this
  refine (b1.block _ (by simp)).trans ?_
  rw [zeros7]
  simpa using this
 have hL1 := hb0.trans (b1.mono hb0.size)
 have h7t : w1.there (w.heap.size + 1 + 1) 0 7 := by simpa using b2.there
 have HT : Hid _ := h7t
 clear b2 h7t b1 hb0
 go_wp2_with (refine wpList_storeRel rfl rfl (.tmp 4) (.tmp 8) rfl (w.heap.size + 1 + 1) 0 zs rfl rfl hz7 HT.out ?_)
 refine bodyPost_cellR rfl (w.heap.size + 1 + 1) 0 (ints zs) _ rfl (World.rangeAt_setCells_same _ _ _ _ (by rw [ints_length, hz7]; exact HT.out)) relUnd rfl (by rw [relInfo]; simp [ints, hz7]) rfl ⟨rfl, ?_⟩
 exact hL1.grown (grown_setCells7 _ _ _ _) (by have := hL1.size; omega) (fun k hk => by simp at hk; omega)

theorem reads_range {w : World} {v : Value} {xs : List Int} (h : Reads w v (ints xs)) (h7 : xs.length = 7) : ∃ g off cap, v = .slice (some ⟨g, off, none⟩) 7 cap ∧ w.rangeAt g off (ints xs) := by
 obtain ⟨ao, cap, rfl, hc⟩ := h
 obtain ⟨g, off, rfl, _⟩ := hc 0 (.int .i64 (xs.getD 0 0)) (by simp [ints, List.getD, h7])
 refine ⟨g, off, cap, by rw [ints_length, h7], fun j x hx => ?_⟩
 obtain ⟨g', off', e, h⟩ := hc j x hx
 simp at e
 obtain ⟨rfl, rfl⟩ := e
 exact h

theorem range_below {w w' : World} {g off : Nat} {cs : List Value} (h : w.rangeAt g off cs) (hb : Below w.heap.size w w') : w'.rangeAt g off cs := fun j x hx => by
 have := h j x hx
 exact (hb.cell (World.block_lt_of_cell? w _ this)).trans this

end Go.Proofs.Ytnjbihfceckpfaa
