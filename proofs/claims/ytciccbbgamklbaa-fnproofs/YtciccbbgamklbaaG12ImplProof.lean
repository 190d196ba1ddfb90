/-
  Put together out of: ImplSolved, ImplProof.
-/
import Derived.Test.YtciccbbgamklbaaG11FillIn
import Derived.Test.YtciccbbgamklbaaG05Lists
/-
  impl.Solved.
-/
namespace Go.Proofs.Ytciccbbgamklbaa
open Go.RowKit Go.Shelf
set_option linter.unusedVariables false
set_option linter.unusedSimpArgs false
set_option maxHeartbeats 4000000
set_option maxRecDepth 20000
attribute [local go_sem] Oper.semAt_some

theorem visits_foot (n Bp Bf Bs : Nat) (ss : List Stm) (c s : Int) (v : Value) (m : Nat) (w W0 : World) (hp : procOk ss = true) (hs : Small s) (hc : c = 1 ∨ c = 2) (hm : markFn c = m) (hv : Reads3 w v ss) (hw : Below w.heap.size w W0)
    (hBp : W0.heap[Bp]? = some (.cells #[v] 30 (0, 0)))
    (hBf : W0.heap[Bf]? = some (.cells #[.func (.func 70) #[] #[], .func (.func 71) #[] #[], .func (.func 72) #[] #[], .func (.func m) #[] #[]] 59 (0, 0)))
    (hBs : W0.heap[Bs]? = some (.cells #[.int .i64 s] 2 (0, 0))) :
    SeqFootH (α := Vis) Fence.wide n Try.prog 53 #[.pointer (some ⟨Bs, 0, none⟩), .pointer (some ⟨Bf, 0, none⟩), .pointer (some ⟨Bp, 0, none⟩)] (fun x => #[.agg #[x.u, .int .i64 x.set]]) (VG c ss s w.heap.size) (fun f => ∀ r, f r → w.heap.size ≤ r ∧ r ≠ Bp ∧ r ≠ Bf)
      (fun xs => ∃ fs, VInv c ss s xs [] fs) (VStop c ss s) 5000 W0 := by
  intro l J Jx W f hb hJ hPf hflt hY h0
  have l1 := (Array.getElem?_eq_some_iff.1 hBp).1
  have l2 := (Array.getElem?_eq_some_iff.1 hBf).1
  have l3 := (Array.getElem?_eq_some_iff.1 hBs).1
  exact visits1 n l Bp Bf Bs ss c s v m w W hp hs hc hm hv (hw.trans (hb.mono hw.size)) ((hb.block Bp l1).trans hBp) ((hb.block Bf l2).trans hBf) ((hb.block Bs l3).trans hBs) J Jx hJ f hPf hflt hY h0

theorem vg_put (c : Int) (ss : List Stm) (s : Int) (base : Nat) (x : Vis) (f : Nat → Prop) (W : World) (l : Nat) (o o' : Obj) (h : VG c ss s base x f W) (hl : W.heap[l]? = some o) (ho : o.isCells = false) : VG c ss s base x f (W.putObj l o') := by
  obtain ⟨h1, h2, h3⟩ := h
  refine ⟨own_same h1 (fun k hk => World.putObj_heap_other ?_), h2, h3⟩
  rintro rfl
  obtain ⟨cur, hc⟩ := own_blk h1 hk
  rw [hl] at hc
  simp only [Option.some.injEq] at hc
  subst hc
  simp [Obj.isCells] at ho

theorem made_row {w : World} {base g n : Nat} {xs : List Value} (h : w.ownsRow base 2 1 (.slice (some ⟨g, 0, none⟩) n n) n xs) : ∃ cur : Array Value, w.heap[g]? = some (.cells cur 2 (0, 0)) ∧ cur.size = n := by
  rcases h.2 with ⟨e, _⟩ | ⟨g', cap, cur, e, _, h2, _, _, h5, _⟩
  · cases e
  · cases e
    exact ⟨cur, h2, by simpa using h5⟩

/-- What has come so far is laid down. -/
structure SSt8 (v : Value) (w : World) (Cb : Nat) (pre : List Vis) (f : Nat → Prop) (W : World) : Prop where
  fd : ∃ fs : List Int, fs.length = 12 ∧ (∀ k, Small (fs.getD k 0)) ∧ W.heap[Cb]? = some (.cells (ints fs).toArray 78 (0, 0)) ∧ ∀ i t, t < 7 → (bit (fs.getD i 0) t = true ↔ ∃ x ∈ pre, lastI x.way = (i : Int) ∧ bit x.set t = true)
  foot : f Cb
  below : Below w.heap.size w W
  box : W.heap[w.heap.size]? = some (.cells #[v] 30 (0, 0))

theorem sst8_own (v : Value) (w : World) (Cb B : Nat) (hC : Cb < B) (hB : w.heap.size < B) : FootOwnA B (SSt8 v w Cb) := by
  rintro s f A A' AA ⟨⟨fs, h1, h2, h3, h4⟩, hf, hb, hx⟩ hg hr
  refine ⟨⟨fs, h1, h2, ?_, h4⟩, hf, Below.grownA hb hg hb.size (fun k e => by have := (hr k e).1; omega), (hg.block _ (Array.getElem?_eq_some_iff.1 hx).1 (fun e => by have := (hr _ e).1; omega)).trans hx⟩
  exact (hg.block Cb (Array.getElem?_eq_some_iff.1 h3).1 (fun e => by have := (hr Cb e).1; omega)).trans h3

theorem vg_alloc (c : Int) (ss : List Stm) (s : Int) (base : Nat) (x : Vis) (f : Nat → Prop) (W : World) (o : Obj) (h : VG c ss s base x f W) : VG c ss s base x f (W.alloc o) := by
  obtain ⟨h1, h2⟩ := h
  exact ⟨h1.alloc o, h2⟩

--D7
/-- What the region of impl.Solved's body has, operation by operation. -/
def S7F (xv : Value) (xs y : Int) (i Cb Vb : Nat) (l : Nat → Bool) (x26 x27 x28 x29 x30 x31 x32 x33 : Value) : Prop :=
  (l 0 = true → x26 = .agg #[xv, .int .i64 xs]) ∧ (l 1 = true → x27 = .int .i64 (i : Int)) ∧ (l 2 = true → x28 = .pointer (some ⟨Cb, i, none⟩)) ∧ (l 3 = true → x29 = .int .i64 y) ∧ (l 4 = true → x30 = .pointer (some ⟨Vb, 1, none⟩)) ∧ (l 5 = true → x31 = .int .i64 xs) ∧ (l 6 = true → x32 = .int .i64 (bits .or .i64 y xs)) ∧ (l 7 = true → x33 = .pointer (some ⟨Cb, i, none⟩))

/-- Its world. -/
def S7W (xs y : Int) (i Cb : Nat) (W : World) (l : Nat → Bool) (wr : World) : Prop :=
  (l 8 = false ∧ Below W.heap.size W wr) ∨ (l 8 = true ∧ (∀ j, j < 8 → l j = true) ∧ ∃ wz, Below W.heap.size W wz ∧ wr = wz.setCell ⟨Cb, i, none⟩ (.int .i64 (bits .or .i64 y xs)))

def S7I (xv : Value) (xs y : Int) (i Cb Vb : Nat) (W : World) (l : Nat → Bool) (a : Act) (wr : World) : Prop :=
  ∃ y0 y1 y2 y3 y4 y5 y6 y7 y8 y11 y12 y13 y14 y15 y16 y17 y18 y19 y20 y21 y22 y23 y24 y25 y34 y35 y36 y37 y38 y39 y40 y41 x26 x27 x28 x29 x30 x31 x32 x33 : Value, a = { tmps := List.toArray (y0 :: y1 :: y2 :: y3 :: y4 :: y5 :: y6 :: y7 :: y8 :: .pointer (some ⟨Cb, 0, none⟩) :: .pointer (some ⟨Vb, 0, none⟩) :: y11 :: y12 :: y13 :: y14 :: y15 :: y16 :: y17 :: y18 :: y19 :: y20 :: y21 :: y22 :: y23 :: y24 :: y25 :: x26 :: x27 :: x28 :: x29 :: x30 :: x31 :: x32 :: x33 :: y34 :: y35 :: y36 :: y37 :: y38 :: y39 :: y40 :: y41 :: []), defers := [] } ∧ S7W xs y i Cb W l wr ∧ S7F xv xs y i Cb Vb l x26 x27 x28 x29 x30 x31 x32 x33
--D7END

theorem laid5 (W : World) (a b c d e : Obj) : ((((W.alloc a).alloc b).alloc c).alloc d |>.alloc e).heap[W.heap.size + 1]? = some b ∧ ((((W.alloc a).alloc b).alloc c).alloc d |>.alloc e).heap[W.heap.size + 1 + 1]? = some c ∧ ((((W.alloc a).alloc b).alloc c).alloc d |>.alloc e).heap[W.heap.size + 1 + 1 + 1]? = some d ∧ ((((W.alloc a).alloc b).alloc c).alloc d |>.alloc e).heap[W.heap.size + 1 + 1 + 1 + 1]? = some e ∧ ((((W.alloc a).alloc b).alloc c).alloc d |>.alloc e).heap.size = W.heap.size + 5 ∧ Below W.heap.size W ((((W.alloc a).alloc b).alloc c).alloc d |>.alloc e) := by
  have z1 : (W.alloc a).heap.size = W.heap.size + 1 := by simp
  have z2 : ((W.alloc a).alloc b).heap.size = W.heap.size + 1 + 1 := by simp
  have z3 : (((W.alloc a).alloc b).alloc c).heap.size = W.heap.size + 1 + 1 + 1 := by simp
  have z4 : ((((W.alloc a).alloc b).alloc c).alloc d).heap.size = W.heap.size + 1 + 1 + 1 + 1 := by simp
  refine ⟨?_, ?_, ?_, ?_, by simp, by go_grown⟩
  · rw [old_block (by omega), old_block (by omega), old_block (by omega), ← z1]; exact heap_alloc_new _ b
  · rw [old_block (by omega), old_block (by omega), ← z2]; exact heap_alloc_new _ c
  · rw [old_block (by omega), ← z3]; exact heap_alloc_new _ d
  · rw [← z4]; exact heap_alloc_new _ e

theorem implSolved (ss : List Stm) (c s : Int) (A : List Int) (hAA : SolvedAns c ss s A) (v : Value) (w : World) (hl : ss.length ≤ maxLen) (hv : Reads3 w v ss) :
    Calls Try.prog 17 #[.agg #[v], .int .i64 c, .int .i64 s] w fun e w' => ∃ u, e = .returned u ∧ w'.ownsRow w.heap.size 2 1 u A.length (ints A) ∧ Below w.heap.size w w' := by
  have hb0 : Below w.heap.size w (w.alloc (.cells #[v] 30)) := by go_grown
  have hfi := fun W (hW : Below w.heap.size w W) => flowsInside ss c s v W hl (reads3_below hv hW)
  obtain ⟨hA, hA0⟩ := hAA
  cases hin : (procOk ss && isCl c && inB s 0 127)
  · obtain rfl := hA0 hin
    rw [hin] at hfi
    go_enter Try.func17, Try.ntmps17
    go_wp2_with (go_at_call 30; refine (hfi _ (by go_grown)).mono ?_; rintro e w2 ⟨rfl, b2⟩)
    go_ret
    have L2 := hb0.trans (b2.mono hb0.size)
    exact ⟨_, rfl, nil_own _ _, L2.alloc L2.size _⟩
  rw [hin] at hfi
  simp only [if_true] at hfi
  have hA1 := hA hin
  have hparts : procOk ss = true ∧ isCl c = true ∧ inB s 0 127 = true := by
    simp only [Bool.and_eq_true] at hin
    exact ⟨hin.1.1, hin.1.2, hin.2⟩
  obtain ⟨hok, hic, hs⟩ := hparts
  have hc : c = 1 ∨ c = 2 := by simpa [isCl] using hic
  have hsm := small_in.1 hs
  unfold flowsV at hfi
  obtain ⟨m, hm⟩ : ∃ m, markFn c = m := ⟨_, rfl⟩
  rw [hm] at hfi
  have HMF : Hid _ := hm
  clear hm hA hA0
  refine (callsIn_wide (n := 5)).1 ?_
  refine callsIn_of_wp_marks Try.func17 rfl trivial ?_ rfl
  simp only [Try.ntmps17, List.size_toArray, List.length_cons, List.length_nil, Nat.reduceAdd, Nat.reduceSub, Array.replicate_succ, Array.replicate_zero, List.push_toArray, List.append_toArray, List.nil_append, List.cons_append]
  gi_wp2
  refine ⟨trivial, ?_⟩
  refine (callsIn_wide.2 (hfi _ (by go_grown))).mono ?_
  rintro e w2 ⟨rfl, b2⟩
  obtain ⟨L2, q2⟩ := flow_pre b2
  have hlt : w.heap.size < w2.heap.size := (Array.getElem?_eq_some_iff.1 q2).1
  have g0 : ∀ o, (w2.alloc o).cell? ⟨w.heap.size, 0, none⟩ = some v := fun o => (one_cell ((old_block hlt).trans q2)).1
  have g1 : ∀ o o', ((w2.alloc o).alloc o').cell? ⟨w.heap.size, 0, none⟩ = some v := fun o o' => (one_cell ((old_block (by simp; omega)).trans ((old_block hlt).trans q2))).1
  gi_wp2
  refine ⟨trivial, ?_⟩
  refine (callsIn_wide.2 (visitsWithNews v _ _ _ _ s _)).mono ?_
  rintro e w3 ⟨rfl, hw3⟩
  have hl5 := laid5 w2 (.cells #[.func (.func 70) #[] #[], .func (.func 71) #[] #[], .func (.func 72) #[] #[], .func (.func m) #[] #[]] 59) (.cells (ints (List.replicate 12 0)).toArray 78) (.cells #[v] 30) (.cells #[.func (.func 70) #[] #[], .func (.func 71) #[] #[], .func (.func 72) #[] #[], .func (.func m) #[] #[]] 59) (.cells #[.int .i64 s] 2)
  have hw3' : w3 = _ := hw3
  change w3 = ((((w2.alloc (.cells #[.func (.func 70) #[] #[], .func (.func 71) #[] #[], .func (.func 72) #[] #[], .func (.func m) #[] #[]] 59)).alloc (.cells (ints (List.replicate 12 0)).toArray 78)).alloc (.cells #[v] 30)).alloc (.cells #[.func (.func 70) #[] #[], .func (.func 71) #[] #[], .func (.func 72) #[] #[], .func (.func m) #[] #[]] 59)).alloc (.cells #[.int .i64 s] 2) at hw3'
  rw [← hw3'] at hl5
  obtain ⟨C3, P3, F3, S3, z3, b3⟩ := hl5
  have L3 := L2.trans (b3.mono L2.size)
  have Q3 : w3.heap[w.heap.size]? = some (.cells #[v] 30 (0, 0)) := (b3.block _ hlt).trans q2
  clear hw3 hw3' g0 g1 q2 b2 hfi
  have hst : ∀ f : Nat → Prop, f (w2.heap.size + 1) → SSt8 v w (w2.heap.size + 1) [] f w3 := fun f hf => ⟨⟨List.replicate 12 0, rfl, fun k => by rw [getD_rep]; exact ⟨by decide, by decide⟩, C3, fun i t ht => by rw [getD_rep, bit_zero]; simp⟩, hf, L3, Q3⟩
  gi_wp2
  refine wpIn_rangeFunc_footV (α := Vis) rfl (by decide) (gf := 53) (lb := #[.pointer (some ⟨w2.heap.size + 1 + 1 + 1 + 1, 0, none⟩), .pointer (some ⟨w2.heap.size + 1 + 1 + 1, 0, none⟩), .pointer (some ⟨w2.heap.size + 1 + 1, 0, none⟩)]) (by simp [go_sem]) trivial (enters_of Try.func53 (by kernel_rfl) rfl)
    (visits_foot _ (w2.heap.size + 1 + 1) (w2.heap.size + 1 + 1 + 1) (w2.heap.size + 1 + 1 + 1 + 1) ss c s v m w w3 hok hsm hc HMF.out hv L3 P3 F3 S3) (Below.refl _ _) (fun _ => rfl) (vg_put c ss s w.heap.size)
    (fun r => r = w2.heap.size + 1) (fun r hr => by omega) (fun r hr => by have := L2.size; rcases hr with h | h | h <;> omega)
    (SSt8 v w (w2.heap.size + 1)) (fun _ _ _ _ => False) (sst8_own v w (w2.heap.size + 1) w3.heap.size (by omega) (by have := L2.size; omega)) (fun _ _ _ _ _ _ _ _ hs _ _ => hs)
    (hst _ (.inl rfl)) (fun x Vb => { tmps := #[.agg #[v], .int .i64 c, .int .i64 s, .pointer (some ⟨w.heap.size, 0, none⟩), undef, undef, .slice none 0 0, .pointer (some ⟨w2.heap.size, 0, none⟩), .bool true, .pointer (some ⟨w2.heap.size + 1, 0, none⟩), .pointer (some ⟨Vb, 0, none⟩), undef, .tuple #[.agg #[.func (.func 70) #[] #[], .func (.func 71) #[] #[], .func (.func 72) #[] #[], .func (.func m) #[] #[]], .bool true], .agg #[v], .int .i64 c, .int .i64 s, .tuple #[.agg #[.func (.func 70) #[] #[], .func (.func 71) #[] #[], .func (.func 72) #[] #[], .func (.func m) #[] #[]], .bool true], .agg #[.func (.func 70) #[] #[], .func (.func 71) #[] #[], .func (.func 72) #[] #[], .func (.func m) #[] #[]], .bool true, .bool true, .bool false, .agg #[v], .agg #[.func (.func 70) #[] #[], .func (.func 71) #[] #[], .func (.func 72) #[] #[], .func (.func m) #[] #[]], .int .i64 s, .func (.func 53) #[] #[.pointer (some ⟨w2.heap.size + 1 + 1 + 1 + 1, 0, none⟩), .pointer (some ⟨w2.heap.size + 1 + 1 + 1, 0, none⟩), .pointer (some ⟨w2.heap.size + 1 + 1, 0, none⟩)], .agg #[x.u, .int .i64 x.set], undef, undef, undef, undef, undef, undef, undef, undef, undef, undef, undef, undef, undef, undef, undef, undef], defers := [] })
    (fun x => .cells #[x.u, .int .i64 x.set] 67) (fun x f W h => vg_alloc c ss s w.heap.size x f W _ h) ?assign ?body ?done ?stop
  case assign =>
    rintro l x W K ⟨f, hG⟩ hK
    obtain ⟨xo, xm, xc, hxu⟩ := own_slice hG.1
    rw [hxu] at hK ⊢
    gi_wp2
    exact hK
  case stop =>
    rintro D c pre f W _ _ h _
    exact h.elim
  case done =>
    rintro D xs f W hD hS ⟨⟨fs, f1, f2, f3, f4⟩, hf, hbl, hbox⟩ hK
    obtain ⟨vo, vc, hv0, _⟩ := id hv
    obtain ⟨cb, fb⟩ := one_cell hbox
    rw [hv0] at cb
    have h12 := (procOk_parts hok).2.1
    obtain ⟨fs0, hVI⟩ := hS
    have hVI2 : VInv c ss s xs [] fs := { hVI with len := f1, small := f2, fnd := f4 }
    have hAe : A = fs.take ss.length := solved_unique hA1 (hVI2.solved hok hsm)
    obtain ⟨i0, hi0, hz0, hz1, hz2⟩ := info_parts infoInt
    have hb8 : i0.bytes * ss.length ≤ 281474976710656 := by rw [hz2]; omega
    have hmx : ss.length ≤ maxLen := by unfold maxLen; omega
    have hws : w.heap.size ≤ W.heap.size := hbl.size
    have hDlt := (Array.getElem?_eq_some_iff.1 hK).1
    obtain ⟨Cb, hCb⟩ : ∃ Cb, w2.heap.size + 1 = Cb := ⟨_, rfl⟩
    rw [hCb] at f3
    have HC3 : Hid _ := f3
    have HBL : Hid _ := hbl
    have HKK : Hid _ := hK
    have HAE : Hid _ := hAe
    clear hbox hK hAe hVI hVI2 f4 hbl f2
    have hszI : (Try.prog.info? 2).map (·.size) = some 1 := by kernel_rfl
    have zC := (Array.getElem?_eq_some_iff.1 f3).1
    have hcl2 : ((ints fs).take ss.length).length = ss.length := by simp [ints, f1]; omega
    have hcl : ((ints fs).take ss.length).length = Nat.min 12 ss.length := by rw [hcl2]; exact (Nat.min_eq_right h12).symm
    have hone : ∀ u ∈ (ints fs).take ss.length, u.oneCell' = true := fun u hu => ints_oneCell fs u (List.mem_of_mem_take hu)
    have HCELL : Hid (∀ w6, W.grownBy w6 none → ∀ j u, ((ints fs).take ss.length)[j]? = some u → w6.cell? ((⟨Cb, 0, none⟩ : Addr).add j) = some u) := by
      intro w6 g6 j u hu
      have hj : j < ss.length := by have := (List.getElem?_eq_some_iff.1 hu).1; rw [hcl2] at this; exact this
      have hc6 := (g6.block Cb zC (by simp)).trans f3
      rw [Addr.add_lit, Nat.zero_add, (found_cell hc6 j (by rw [f1]; omega)).1, ← hu, List.getElem?_take, if_pos hj]
      simp [ints, List.getD, f1, show j < 12 by omega]
    clear f3
    gi_wp2_with (gi_at_make; refine wpListIn_make_full _ rfl (.tmp 36) (.tmp 36) 26 rfl w.heap.size 2 i0 (.int .i64 0) 1 Try.underlying26 hi0 hz0 hz1 .i64 .i64 (ss.length : Int) (ss.length : Int) ss.length rfl rfl rfl rfl hb8 hmx hws ?_; intro w6 own6 grow6)
    obtain ⟨cur, hcur, hcs⟩ := made_row own6
    have hrun := run_copy_row (P := Try.prog) w6 26 26 3 2 W.heap.size 0 ss.length ss.length ⟨Cb, 0, none⟩ 12 12 cur 2 ((ints fs).take ss.length) Try.underlying26 hszI hcur hcl (HCELL.out _ grow6) (by rw [hcl2, hcs]; omega) hone
    rw [hrun]
    have hrow : (cur.toList.take 0 ++ (ints fs).take ss.length ++ cur.toList.drop (0 + ((ints fs).take ss.length).length)) = (ints fs).take ss.length := by
      rw [hcl2, List.take_zero, List.nil_append, List.drop_of_length_le (by simp [hcs]), List.append_nil]
    rw [hrow]
    have hints : (ints fs).take ss.length = ints A := by rw [HAE.out]; simp [ints, List.map_take]
    have hAl : A.length = ss.length := hA1.1
    have H8 : (w6.setRow W.heap.size ((ints fs).take ss.length).toArray).heap[W.heap.size]? = some (.cells ((ints fs).take ss.length).toArray 2 (0, 0)) := setRow_heap w6 _ _ _ 2 _ hcur
    have O8 : Hid ((w6.setRow W.heap.size ((ints fs).take ss.length).toArray).ownsRow w.heap.size 2 1 (.slice (some ⟨W.heap.size, 0, none⟩) ss.length ss.length) A.length (ints A)) := by
      refine ⟨by rw [ints_length]; omega, .inr ⟨W.heap.size, ss.length, _, by rw [hAl], hws, H8, by omega, hmx, by simp; rw [ints_length, f1]; omega, ?_⟩⟩
      rw [List.toList_toArray, hints, hAl, Nat.mul_one, List.take_of_length_le (by rw [ints_length, hAl]; exact Nat.le_refl _)]
    have B8 : Hid (Below w.heap.size w (w6.setRow W.heap.size ((ints fs).take ss.length).toArray)) := below_setRow (HBL.out.grown grow6 HBL.out.size (by simp)) hws _
    have K8 : Hid ((w6.setRow W.heap.size ((ints fs).take ss.length).toArray).heap[D]? = some (.deferred (some []))) := (setRow_other w6 W.heap.size D _ (by omega)).trans ((grow6.block D hDlt (by simp)).trans HKK.out)
    generalize w6.setRow W.heap.size ((ints fs).take ss.length).toArray = w8 at *
    clear hrun hrow H8 hcur own6
    gi_wp2
    refine ⟨by simp, .inl ⟨_, _, rfl, run_takeDeferred K8.out, ?_⟩⟩
    exact ⟨_, results_tmp rfl _ _ _, _, rfl, ownsRow_putObj O8.out _ K8.out rfl, B8.out.trans (belowK_b (w := w) (Nat.le_refl _) w8 D _ _ (by omega) K8.out rfl rfl)⟩
  case body =>
    rintro l pre x f W Vb ⟨⟨fs, f1, f2, f3, f4⟩, hf, hbl, hbox⟩ hG hflt hfD hlen hVb hnV
    obtain ⟨hxo, hxf, hxs, hxR, hxS⟩ := hG
    obtain ⟨xo, xm, xc, hxu⟩ := own_slice hxo
    obtain ⟨i, hi, hil⟩ := RW_in hok hxR
    have h12 := (procOk_parts hok).2.1
    obtain ⟨Cb, hCb⟩ : ∃ Cb, w2.heap.size + 1 = Cb := ⟨_, rfl⟩
    have hCw : w.heap.size < Cb := by rw [← hCb]; have := L2.size; omega
    rw [hCb] at f3 hf ⊢
    have hsx : Small x.set := by rw [hxS]; exact st_small hok hsm hxR
    have HEND : Hid (∀ wz, Below W.drew.heap.size W.drew wz → KeepsOthers W (wz.setCell ⟨Cb, i, none⟩ (.int .i64 (bits .or .i64 (fs.getD i 0) x.set))) ∧ ∃ f', Outside f W f' (wz.setCell ⟨Cb, i, none⟩ (.int .i64 (bits .or .i64 (fs.getD i 0) x.set))) ∧ SSt8 v w Cb (pre ++ [x]) f' (wz.setCell ⟨Cb, i, none⟩ (.int .i64 (bits .or .i64 (fs.getD i 0) x.set)))) := by
      intro wz hz0
      have bd : Below W.heap.size W W.drew := Below.drew (Below.refl _ _)
      have hz : Below W.heap.size W wz := bd.trans (hz0.mono bd.size)
      have gs := grown_setCell1H wz Cb i (.int .i64 (bits .or .i64 (fs.getD i 0) x.set))
      have hgw : W.grownBy (wz.setCell ⟨Cb, i, none⟩ (.int .i64 (bits .or .i64 (fs.getD i 0) x.set))) (some Cb) := grown_trans (grown_of_below hz (some Cb)) gs
      have cz := (hz.block Cb (Array.getElem?_eq_some_iff.1 f3).1).trans f3
      have hi12 : i < fs.length := by rw [f1]; omega
      have hget : ∀ k, (fs.set i (lor (fs.getD i 0) x.set)).getD k 0 = if k = i then lor (fs.getD i 0) x.set else fs.getD k 0 := fun k => by
        by_cases e : i = k
        · subst e
          simp [List.getD, hi12]
        · rw [if_neg (fun e' => e e'.symm)]
          simp [List.getD, List.getElem?_set_ne e]
      refine ⟨?_, f, Outside.grown hgw hflt (fun r e => by cases e; exact hf), ⟨fs.set i (lor (fs.getD i 0) x.set), by rw [List.length_set]; exact f1, fun k => ?_, ?_, fun k t ht => ?_⟩, hf, hbl.grown hgw hbl.size (fun k e => by simp at e; omega), (hgw.block _ (Array.getElem?_eq_some_iff.1 hbox).1 (fun e => by simp at e; omega)).trans hbox⟩
      · exact KeepsOthers.of_grownBy hgw (fun j o e h => by cases e; rw [f3] at h; cases h; rfl)
      · rw [hget]; split
        · exact lor_small (f2 i) hsx
        · exact f2 k
      · have := heap_setCell_same wz Cb i _ 78 (.int .i64 (lor (fs.getD i 0) x.set)) cz
        rw [show bits .or .i64 (fs.getD i 0) x.set = lor (fs.getD i 0) x.set from rfl, this]
        simp [ints, List.map_set]
      · rw [hget]
        by_cases e : k = i
        · subst e
          rw [if_pos rfl, bit_lor (f2 k) hsx, Bool.or_eq_true, f4 k t ht]
          constructor
          · rintro (⟨y, hy, h1, h2⟩ | hb)
            · exact ⟨y, by simp [hy], h1, h2⟩
            · exact ⟨x, by simp, hi, hb⟩
          · rintro ⟨y, hy, h1, h2⟩
            rcases List.mem_append.1 hy with hy | hy
            · exact .inl ⟨y, hy, h1, h2⟩
            · simp at hy; subst hy; exact .inr h2
        · rw [if_neg e, f4 k t ht]
          constructor
          · rintro ⟨y, hy, h1, h2⟩; exact ⟨y, by simp [hy], h1, h2⟩
          · rintro ⟨y, hy, h1, h2⟩
            rcases List.mem_append.1 hy with hy | hy
            · exact ⟨y, hy, h1, h2⟩
            · simp at hy; subst hy; rw [hi] at h1; omega
    obtain ⟨cc, fc⟩ := found_cell f3 i (by rw [f1]; omega)
    have bd : Below W.heap.size W W.drew := Below.drew (Below.refl _ _)
    have hat := fun W' (hW' : Below W.drew.heap.size W.drew W') => visitAt x w.heap.size W' (own_kept hxo (bd.trans (hW'.mono bd.size))) hxR.1 hxs
    rw [hi, hxu] at hat
    rw [hxu] at hVb
    have cv0 : W.drew.cell? ⟨Vb, 0, none⟩ = some (.slice xo xm xc) := by
      show W.cell? _ = _
      rw [cell_of_row _ _ 0 _ _ (0, 0) hVb]; rfl
    have cv1 : W.drew.cell? ⟨Vb, 1, none⟩ = some (.int .i64 x.set) := by
      show W.cell? _ = _
      rw [cell_of_row _ _ 1 _ _ (0, 0) hVb]; rfl
    have zV : Vb < W.drew.heap.size := (Array.getElem?_eq_some_iff.1 hVb).1
    have zC : Cb < W.drew.heap.size := (Array.getElem?_eq_some_iff.1 f3).1
    have cc : W.drew.cell? ⟨Cb, i, none⟩ = some (.int .i64 (fs.getD i 0)) := cc
    have fc : W.drew.frozen? ⟨Cb, i, none⟩ = false := fc
    have hi12' : (i : Int) < 12 := by omega
    have hi0' : (0 : Int) ≤ (i : Int) := by omega
    rw [hxu]
    generalize fs.getD i 0 = y at *
    generalize x.set = xs at *
    have hend := HEND.out
    clear HEND f1 f2 f3 f4 hxo hVb hxS hi hxu hbox hxR hxf
    gi_wp2
    --R7
    refine wpIn_region_inv (by kernel_rfl) (by kernel_rfl) (S7I (.slice xo xm xc) xs y i Cb Vb W.drew) ?h70 ?h7s ?h7e
    case h70 => exact ⟨_, _, _, _, _, _, _, _, _, _, _, _, _, _, _, _, _, _, _, _, _, _, _, _, _, _, _, _, _, _, _, _, _, _, _, _, _, _, _, _, rfl, .inl ⟨rfl, Below.refl _ _⟩, by simp, by simp, by simp, by simp, by simp, by simp, by simp, by simp⟩
    case h7s =>
      intro l' k o a wr ho hI hli haf
      obtain ⟨y0, y1, y2, y3, y4, y5, y6, y7, y8, y11, y12, y13, y14, y15, y16, y17, y18, y19, y20, y21, y22, y23, y24, y25, y34, y35, y36, y37, y38, y39, y40, y41, x26, x27, x28, x29, x30, x31, x32, x33, rfl, hJ, pf⟩ := hI
      obtain ⟨p0, p1, p2, p3, p4, p5, p6, p7⟩ := pf
      have hk9 : k < 9 := (Array.getElem?_eq_some_iff.1 ho).1
      obtain ⟨h8, hB⟩ : l' 8 = false ∧ Below W.drew.heap.size W.drew wr := by
        rcases hJ with h | ⟨h8, hall, _⟩
        · exact h
        · by_cases e : k = 8
          · subst e; rw [hli] at h8; cases h8
          · have := hall k (by omega); rw [hli] at this; cases this
      have HBW : Hid _ := hB
      have H8 : Hid _ := h8
      obtain ⟨hcW, hfW⟩ := bcell hB
      have c0 := (hcW _ 0 zV).trans cv0
      have c1 := (hcW _ 1 zV).trans cv1
      have c2 := (hcW _ i zC).trans cc
      have f2 := (hfW _ i zC).trans fc
      clear hB h8 hcW hfW hJ
      have hcases : k = 0 ∨ k = 1 ∨ k = 2 ∨ k = 3 ∨ k = 4 ∨ k = 5 ∨ k = 6 ∨ k = 7 ∨ k = 8 := by omega
      rcases hcases with rfl | rfl | rfl | rfl | rfl | rfl | rfl | rfl | rfl
      · simp only [List.getElem?_toArray, List.getElem?_cons_zero, Option.some.injEq] at ho
        subst ho
        have HPF : Hid _ := And.intro p0 (And.intro p1 (And.intro p2 (And.intro p3 (And.intro p4 (And.intro p5 (And.intro p6 p7))))))
        clear p0 p1 p2 p3 p4 p5 p6 p7
        clear haf
        gi_wp2
        obtain ⟨p0, p1, p2, p3, p4, p5, p6, p7⟩ := HPF.out
        exact ⟨_, _, _, _, _, _, _, _, _, _, _, _, _, _, _, _, _, _, _, _, _, _, _, _, _, _, _, _, _, _, _, _, _, _, _, _, _, _, _, _, rfl, .inl ⟨H8.out, HBW.out⟩, fun _ => rfl, p1, p2, p3, p4, p5, p6, p7⟩
      · simp only [List.getElem?_toArray, List.getElem?_cons_zero, List.getElem?_cons_succ, Option.some.injEq] at ho
        subst ho
        simp [Region.binds] at haf
        obtain rfl : x26 = _ := p0 (haf)
        have HPF : Hid _ := And.intro p0 (And.intro p1 (And.intro p2 (And.intro p3 (And.intro p4 (And.intro p5 (And.intro p6 p7))))))
        clear p0 p1 p2 p3 p4 p5 p6 p7
        clear haf
        gi_wp2
        refine ⟨trivial, ?_⟩
        refine ((callsIn_wide.2 (hat _ HBW.out)).inRound l).mono ?_
        rintro e w9 ⟨rfl, b9⟩
        have HB9 : Hid (Below W.drew.heap.size W.drew w9) := HBW.out.trans (b9.mono HBW.out.size)
        clear b9
        gi_wp2
        obtain ⟨p0, p1, p2, p3, p4, p5, p6, p7⟩ := HPF.out
        exact ⟨_, _, _, _, _, _, _, _, _, _, _, _, _, _, _, _, _, _, _, _, _, _, _, _, _, _, _, _, _, _, _, _, _, _, _, _, _, _, _, _, rfl, .inl ⟨H8.out, HB9.out⟩, fun _ => rfl, fun _ => rfl, p2, p3, p4, p5, p6, p7⟩
      · simp only [List.getElem?_toArray, List.getElem?_cons_zero, List.getElem?_cons_succ, Option.some.injEq] at ho
        subst ho
        simp [Region.binds] at haf
        obtain rfl : x27 = _ := p1 (haf)
        have HPF : Hid _ := And.intro p0 (And.intro p1 (And.intro p2 (And.intro p3 (And.intro p4 (And.intro p5 (And.intro p6 p7))))))
        clear p0 p1 p2 p3 p4 p5 p6 p7
        clear haf
        gi_wp2
        obtain ⟨p0, p1, p2, p3, p4, p5, p6, p7⟩ := HPF.out
        exact ⟨_, _, _, _, _, _, _, _, _, _, _, _, _, _, _, _, _, _, _, _, _, _, _, _, _, _, _, _, _, _, _, _, _, _, _, _, _, _, _, _, rfl, .inl ⟨H8.out, HBW.out⟩, p0, fun _ => rfl, fun _ => rfl, p3, p4, p5, p6, p7⟩
      · simp only [List.getElem?_toArray, List.getElem?_cons_zero, List.getElem?_cons_succ, Option.some.injEq] at ho
        subst ho
        simp [Region.binds] at haf
        obtain rfl : x28 = _ := p2 (haf)
        have HPF : Hid _ := And.intro p0 (And.intro p1 (And.intro p2 (And.intro p3 (And.intro p4 (And.intro p5 (And.intro p6 p7))))))
        clear p0 p1 p2 p3 p4 p5 p6 p7
        clear haf
        gi_wp2
        obtain ⟨p0, p1, p2, p3, p4, p5, p6, p7⟩ := HPF.out
        exact ⟨_, _, _, _, _, _, _, _, _, _, _, _, _, _, _, _, _, _, _, _, _, _, _, _, _, _, _, _, _, _, _, _, _, _, _, _, _, _, _, _, rfl, .inl ⟨H8.out, HBW.out⟩, p0, p1, fun _ => rfl, fun _ => rfl, p4, p5, p6, p7⟩
      · simp only [List.getElem?_toArray, List.getElem?_cons_zero, List.getElem?_cons_succ, Option.some.injEq] at ho
        subst ho
        have HPF : Hid _ := And.intro p0 (And.intro p1 (And.intro p2 (And.intro p3 (And.intro p4 (And.intro p5 (And.intro p6 p7))))))
        clear p0 p1 p2 p3 p4 p5 p6 p7
        clear haf
        gi_wp2
        obtain ⟨p0, p1, p2, p3, p4, p5, p6, p7⟩ := HPF.out
        exact ⟨_, _, _, _, _, _, _, _, _, _, _, _, _, _, _, _, _, _, _, _, _, _, _, _, _, _, _, _, _, _, _, _, _, _, _, _, _, _, _, _, rfl, .inl ⟨H8.out, HBW.out⟩, p0, p1, p2, p3, fun _ => rfl, p5, p6, p7⟩
      · simp only [List.getElem?_toArray, List.getElem?_cons_zero, List.getElem?_cons_succ, Option.some.injEq] at ho
        subst ho
        simp [Region.binds] at haf
        obtain rfl : x30 = _ := p4 (haf)
        have HPF : Hid _ := And.intro p0 (And.intro p1 (And.intro p2 (And.intro p3 (And.intro p4 (And.intro p5 (And.intro p6 p7))))))
        clear p0 p1 p2 p3 p4 p5 p6 p7
        clear haf
        gi_wp2
        obtain ⟨p0, p1, p2, p3, p4, p5, p6, p7⟩ := HPF.out
        exact ⟨_, _, _, _, _, _, _, _, _, _, _, _, _, _, _, _, _, _, _, _, _, _, _, _, _, _, _, _, _, _, _, _, _, _, _, _, _, _, _, _, rfl, .inl ⟨H8.out, HBW.out⟩, p0, p1, p2, p3, fun _ => rfl, fun _ => rfl, p6, p7⟩
      · simp only [List.getElem?_toArray, List.getElem?_cons_zero, List.getElem?_cons_succ, Option.some.injEq] at ho
        subst ho
        simp [Region.binds] at haf
        obtain rfl : x29 = _ := p3 (haf.1)
        obtain rfl : x31 = _ := p5 (haf.2)
        have HPF : Hid _ := And.intro p0 (And.intro p1 (And.intro p2 (And.intro p3 (And.intro p4 (And.intro p5 (And.intro p6 p7))))))
        clear p0 p1 p2 p3 p4 p5 p6 p7
        clear haf
        gi_wp2
        obtain ⟨p0, p1, p2, p3, p4, p5, p6, p7⟩ := HPF.out
        exact ⟨_, _, _, _, _, _, _, _, _, _, _, _, _, _, _, _, _, _, _, _, _, _, _, _, _, _, _, _, _, _, _, _, _, _, _, _, _, _, _, _, rfl, .inl ⟨H8.out, HBW.out⟩, p0, p1, p2, fun _ => rfl, p4, fun _ => rfl, fun _ => rfl, p7⟩
      · simp only [List.getElem?_toArray, List.getElem?_cons_zero, List.getElem?_cons_succ, Option.some.injEq] at ho
        subst ho
        simp [Region.binds] at haf
        obtain rfl : x27 = _ := p1 (haf.1)
        have HPF : Hid _ := And.intro p0 (And.intro p1 (And.intro p2 (And.intro p3 (And.intro p4 (And.intro p5 (And.intro p6 p7))))))
        clear p0 p1 p2 p3 p4 p5 p6 p7
        clear haf
        gi_wp2
        obtain ⟨p0, p1, p2, p3, p4, p5, p6, p7⟩ := HPF.out
        exact ⟨_, _, _, _, _, _, _, _, _, _, _, _, _, _, _, _, _, _, _, _, _, _, _, _, _, _, _, _, _, _, _, _, _, _, _, _, _, _, _, _, rfl, .inl ⟨H8.out, HBW.out⟩, p0, fun _ => rfl, p2, p3, p4, p5, p6, fun _ => rfl⟩
      · simp only [List.getElem?_toArray, List.getElem?_cons_zero, List.getElem?_cons_succ, Option.some.injEq] at ho
        subst ho
        simp [Region.binds] at haf
        have HALL : Hid (∀ j, j < 8 → l' j = true) := fun j hj => by
          have : j = 0 ∨ j = 1 ∨ j = 2 ∨ j = 3 ∨ j = 4 ∨ j = 5 ∨ j = 6 ∨ j = 7 := by omega
          rcases this with rfl | rfl | rfl | rfl | rfl | rfl | rfl | rfl <;> simp_all
        obtain rfl : x33 = _ := p7 (haf.1)
        obtain rfl : x32 = _ := p6 (haf.2.1)
        have HPF : Hid _ := And.intro p0 (And.intro p1 (And.intro p2 (And.intro p3 (And.intro p4 (And.intro p5 (And.intro p6 p7))))))
        clear p0 p1 p2 p3 p4 p5 p6 p7
        clear haf
        gi_wp2
        obtain ⟨p0, p1, p2, p3, p4, p5, p6, p7⟩ := HPF.out
        exact ⟨_, _, _, _, _, _, _, _, _, _, _, _, _, _, _, _, _, _, _, _, _, _, _, _, _, _, _, _, _, _, _, _, _, _, _, _, _, _, _, _, rfl, .inr ⟨rfl, fun j hj => by simp [HALL.out j hj], wr, HBW.out, rfl⟩, p0, p1, p2, p3, p4, p5, fun _ => rfl, fun _ => rfl⟩
    case h7e =>
      intro l' a wr hI hall
      obtain ⟨y0, y1, y2, y3, y4, y5, y6, y7, y8, y11, y12, y13, y14, y15, y16, y17, y18, y19, y20, y21, y22, y23, y24, y25, y34, y35, y36, y37, y38, y39, y40, y41, x26, x27, x28, x29, x30, x31, x32, x33, rfl, hJ, pf⟩ := hI
      have h8 := hall 8 (by decide)
      obtain ⟨wz, hz, rfl⟩ : ∃ wz, Below W.drew.heap.size W.drew wz ∧ wr = wz.setCell ⟨Cb, i, none⟩ (.int .i64 (bits .or .i64 y xs)) := by
        rcases hJ with ⟨h, _⟩ | ⟨_, _, h⟩
        · rw [h8] at h; cases h
        · exact h
      exact hend wz hz
    --R7END

end Go.Proofs.Ytciccbbgamklbaa

/-
  impl.Proof.
-/
namespace Go.Proofs.Ytciccbbgamklbaa
open Go.RowKit Go.Shelf
set_option linter.unusedVariables false
set_option linter.unusedSimpArgs false
set_option maxHeartbeats 4000000
set_option maxRecDepth 20000
attribute [local go_sem] Oper.semAt_some

/-- Between two rounds: it has not come yet. -/
structure PSt (w : World) (i t : Nat) (pre : List Vis) (f : Nat → Prop) (W : World) : Prop where
  no : ∀ y ∈ pre, ¬ (lastI y.way = (i : Int) ∧ bit y.set t = true)
  ibox : W.heap[w.heap.size + 1]? = some (.cells #[.int .i64 i] 2 (0, 0))
  tbox : W.heap[w.heap.size + 1 + 1]? = some (.cells #[.int .i64 t] 2 (0, 0))
  res : W.heap[w.heap.size + 1 + 1 + 1]? = some (.cells #[.slice none 0 0] 26 (0, 0))
  foot : f (w.heap.size + 1 + 1 + 1)
  below : Below w.heap.size w W

/-- It has come. -/
structure PIx (w : World) (i t : Nat) (c : Code) (pre : List Vis) (f : Nat → Prop) (W : World) : Prop where
  ret : c = .ret
  came : ∃ pre' x, pre = pre' ++ [x] ∧ (∀ y ∈ pre', ¬ (lastI y.way = (i : Int) ∧ bit y.set t = true)) ∧ lastI x.way = (i : Int) ∧ bit x.set t = true ∧ W.heap[w.heap.size + 1 + 1 + 1]? = some (.cells #[x.u] 26 (0, 0)) ∧ W.ownsRow w.heap.size 2 1 x.u x.way.length (ints x.way)
  below : Below w.heap.size w W

theorem pst_own (w : World) (i t B : Nat) (hB : w.heap.size + 4 ≤ B) : FootOwnA B (PSt w i t) := by
  rintro s f A A' AA ⟨h1, h2, h3, h4, h5, h6⟩ hg hr
  refine ⟨h1, ?_, ?_, ?_, h5, Below.grownA h6 hg h6.size (fun k e => by have := (hr k e).1; omega)⟩
  · exact (hg.block _ (Array.getElem?_eq_some_iff.1 h2).1 (fun e => by have := (hr _ e).1; omega)).trans h2
  · exact (hg.block _ (Array.getElem?_eq_some_iff.1 h3).1 (fun e => by have := (hr _ e).1; omega)).trans h3
  · exact (hg.block _ (Array.getElem?_eq_some_iff.1 h4).1 (fun e => by have := (hr _ e).1; omega)).trans h4

theorem pix_put (w : World) (i t B : Nat) (hB : w.heap.size + 4 ≤ B) (c : Code) : FootPut B (PIx w i t c) := by
  rintro s f W l o o' hl ⟨h1, ⟨pre', x, e, h2, h3, h4, h5, h6⟩, h7⟩ ho hc
  exact ⟨h1, ⟨pre', x, e, h2, h3, h4, (World.putObj_heap_other (by omega)).trans h5, ownsRow_putObj h6 _ ho hc⟩, h7.grown (grownBy_putObj' W l o') h7.size (fun k e => by cases e; omega)⟩

--DP
/-- What the region of impl.Proof's body has, operation by operation. -/
def PTF (xv R : Value) (xs : Int) (j i t Ib Tb Vb : Nat) (l : Nat → Bool) (x41 x42 x43 x44 x45 x46 x47 x48 x49 x50 x51 : Value) : Prop :=
  (l 0 = true → x41 = .agg #[xv, .int .i64 xs]) ∧ (l 1 = true → x42 = .int .i64 (i : Int)) ∧ (l 2 = true → x43 = .int .i64 (i : Int)) ∧ (l 3 = true → x44 = .bool true) ∧ (l 4 = true → x45 = .bool true) ∧ (l 5 = true → x46 = .pointer (some ⟨Vb, 1, none⟩)) ∧ (l 6 = true → x47 = .int .i64 xs) ∧ (l 7 = true → x48 = .int .i64 (t : Int)) ∧ (l 8 = true → x49 = .int .i64 (2 ^ t)) ∧ (l 9 = true → x50 = .bool (bit xs t)) ∧ (l 10 = true → x51 = .bool (bit xs t))

def PTI (xv R : Value) (xs : Int) (j i t Ib Tb Vb : Nat) (W : World) (l : Nat → Bool) (a : Act) (wr : World) : Prop :=
  ∃ y0 y1 y2 y3 y4 y5 y6 y7 y11 y12 y14 y15 y16 y17 y18 y19 y20 y21 y22 y23 y24 y25 y26 y27 y28 y29 y30 y31 y32 y33 y34 y35 y36 y37 y38 y39 y40 y52 y53 x41 x42 x43 x44 x45 x46 x47 x48 x49 x50 x51 : Value, a = { tmps := List.toArray (y0 :: y1 :: y2 :: y3 :: y4 :: y5 :: y6 :: y7 :: .pointer (some ⟨Ib, 0, none⟩) :: .pointer (some ⟨Tb, 0, none⟩) :: R :: y11 :: y12 :: .pointer (some ⟨Vb, 0, none⟩) :: y14 :: y15 :: y16 :: y17 :: y18 :: y19 :: y20 :: y21 :: y22 :: y23 :: y24 :: y25 :: y26 :: y27 :: y28 :: y29 :: y30 :: y31 :: y32 :: y33 :: y34 :: y35 :: y36 :: y37 :: y38 :: y39 :: y40 :: x41 :: x42 :: x43 :: x44 :: x45 :: x46 :: x47 :: x48 :: x49 :: x50 :: x51 :: y52 :: y53 :: []), defers := [] } ∧ Below W.heap.size W wr ∧ PTF xv R xs j i t Ib Tb Vb l x41 x42 x43 x44 x45 x46 x47 x48 x49 x50 x51

/-- What the region of impl.Proof's body has, operation by operation. -/
def PNF (xv R : Value) (xs : Int) (j i t Ib Tb Vb : Nat) (l : Nat → Bool) (x41 x42 x43 x44 x45 x46 x47 x48 x49 x50 x51 : Value) : Prop :=
  (l 0 = true → x41 = .agg #[xv, .int .i64 xs]) ∧ (l 1 = true → x42 = .int .i64 (j : Int)) ∧ (l 2 = true → x43 = .int .i64 (i : Int)) ∧ (l 3 = true → x44 = .bool false) ∧ (l 4 = true → x45 = .bool false) ∧ (l 10 = true → x51 = .bool false)

def PNI (xv R : Value) (xs : Int) (j i t Ib Tb Vb : Nat) (W : World) (l : Nat → Bool) (a : Act) (wr : World) : Prop :=
  ∃ y0 y1 y2 y3 y4 y5 y6 y7 y11 y12 y14 y15 y16 y17 y18 y19 y20 y21 y22 y23 y24 y25 y26 y27 y28 y29 y30 y31 y32 y33 y34 y35 y36 y37 y38 y39 y40 y52 y53 x41 x42 x43 x44 x45 x46 x47 x48 x49 x50 x51 : Value, a = { tmps := List.toArray (y0 :: y1 :: y2 :: y3 :: y4 :: y5 :: y6 :: y7 :: .pointer (some ⟨Ib, 0, none⟩) :: .pointer (some ⟨Tb, 0, none⟩) :: R :: y11 :: y12 :: .pointer (some ⟨Vb, 0, none⟩) :: y14 :: y15 :: y16 :: y17 :: y18 :: y19 :: y20 :: y21 :: y22 :: y23 :: y24 :: y25 :: y26 :: y27 :: y28 :: y29 :: y30 :: y31 :: y32 :: y33 :: y34 :: y35 :: y36 :: y37 :: y38 :: y39 :: y40 :: x41 :: x42 :: x43 :: x44 :: x45 :: x46 :: x47 :: x48 :: x49 :: x50 :: x51 :: y52 :: y53 :: []), defers := [] } ∧ Below W.heap.size W wr ∧ PNF xv R xs j i t Ib Tb Vb l x41 x42 x43 x44 x45 x46 x47 x48 x49 x50 x51

--DPEND

theorem implProof2 (ss : List Stm) (c s : Int) (i t : Nat) (A : List Int) (hA : IsProof c ss s i t A) (hil : i < ss.length) (ht7 : t < 7) (v : Value) (w : World) (hl : ss.length ≤ maxLen) (hv : Reads3 w v ss) (hin : (procOk ss && isCl c && inB s 0 127) = true) :
    Calls Try.prog 8 #[.agg #[v], .int .i64 c, .int .i64 s, .int .i64 i, .int .i64 t] w fun e w' => ∃ u, e = .returned u ∧ w'.ownsRow w.heap.size 2 1 u A.length (ints A) ∧ Below w.heap.size w w' := by
  have hfi := fun W (hW : Below w.heap.size w W) => flowsInside ss c s v W hl (reads3_below hv hW)
  rw [hin] at hfi
  simp only [if_true] at hfi
  have hparts : procOk ss = true ∧ isCl c = true ∧ inB s 0 127 = true := by
    simp only [Bool.and_eq_true] at hin
    exact ⟨hin.1.1, hin.1.2, hin.2⟩
  obtain ⟨hok, hic, hs⟩ := hparts
  have hc : c = 1 ∨ c = 2 := by simpa [isCl] using hic
  have hsm := small_in.1 hs
  unfold flowsV at hfi
  obtain ⟨m, hm⟩ : ∃ m, markFn c = m := ⟨_, rfl⟩
  rw [hm] at hfi
  have HMF : Hid _ := hm
  clear hm
  have hwi := fun W => within i ss.length W
  have hwt := fun W => within t 7 W
  have e1 : wiB (i : Int) ss.length = true := by simp [wiB]; omega
  have e2 : wiB (t : Int) 7 = true := by simp [wiB]; omega
  rw [e1] at hwi
  rw [e2] at hwt
  obtain ⟨W0, hW0⟩ : ∃ W0, (((w.alloc (.cells #[v] 30)).alloc (.cells #[.int .i64 i] 2)).alloc (.cells #[.int .i64 t] 2)).alloc (.cells #[.slice none 0 0] 26) = W0 := ⟨_, rfl⟩
  have l4 := laid4 w (.cells #[v] 30) (.cells #[.int .i64 i] 2) (.cells #[.int .i64 t] 2) (.cells #[.slice none 0 0] 26)
  rw [hW0] at l4
  obtain ⟨P0, I0, T0, R0, z0, b0⟩ := l4
  have HW : Hid ((((w.alloc (.cells #[v] 30)).alloc (.cells #[.int .i64 i] 2)).alloc (.cells #[.int .i64 t] 2)).alloc (.cells #[.slice none 0 0] 26) = W0) := hW0
  clear hW0
  have hfi := hfi W0 b0
  refine (callsIn_wide (n := 5)).1 ?_
  refine callsIn_of_wp_marks Try.func8 rfl trivial ?_ rfl
  simp only [Try.ntmps8, List.size_toArray, List.length_cons, List.length_nil, Nat.reduceAdd, Nat.reduceSub, Array.replicate_succ, Array.replicate_zero, List.push_toArray, List.append_toArray, List.nil_append, List.cons_append]
  gi_wp2
  refine ⟨trivial, ?_⟩
  rw [HW.out]
  refine (callsIn_wide.2 hfi).mono ?_
  rintro e w2 ⟨rfl, b2⟩
  have s2 := b2.size
  have L2 := b0.trans (b2.mono b0.size)
  obtain ⟨w3, hw3⟩ : ∃ x, x = w2.alloc (.cells #[.func (.func 70) #[] #[], .func (.func 71) #[] #[], .func (.func 72) #[] #[], .func (.func m) #[] #[]] 59) := ⟨_, rfl⟩
  have b3 : Below W0.heap.size W0 w3 := by rw [hw3]; exact b2.alloc b2.size _
  have P3 : ∀ o, (w2.alloc o).cell? ⟨w.heap.size, 0, none⟩ = some v := fun o => (one_cell ((old_block (by omega)).trans ((b2.block _ (by omega)).trans P0))).1
  have I3 : ∀ o, (w2.alloc o).cell? ⟨w.heap.size + 1, 0, none⟩ = some (.int .i64 i) := fun o => (one_cell ((old_block (by omega)).trans ((b2.block _ (by omega)).trans I0))).1
  have T3 : ∀ o, (w2.alloc o).cell? ⟨w.heap.size + 1 + 1, 0, none⟩ = some (.int .i64 t) := fun o => (one_cell ((old_block (by omega)).trans ((b2.block _ (by omega)).trans T0))).1
  obtain ⟨vo, vc, hv0, hcv⟩ := id hv
  rw [hv0] at P3
  have HV0 : Hid _ := hv0
  have HV : Hid _ := hv
  clear hv0 hv
  gi_wp2
  refine ⟨trivial, ?_⟩
  refine (callsIn_wide.2 (hwi _)).mono ?_
  rintro e _ ⟨rfl, rfl⟩
  gi_wp2
  refine ⟨trivial, ?_⟩
  refine (callsIn_wide.2 (hwt _)).mono ?_
  rintro e _ ⟨rfl, rfl⟩
  gi_wp2
  refine ⟨trivial, ?_⟩
  refine (callsIn_wide.2 (visitsWithNews _ _ _ _ _ s _)).mono ?_
  rintro e w4 ⟨rfl, hw4⟩
  have hl4 := laid4 w2 (.cells #[.func (.func 70) #[] #[], .func (.func 71) #[] #[], .func (.func 72) #[] #[], .func (.func m) #[] #[]] 59) (.cells #[.slice vo ss.length vc] 30) (.cells #[.func (.func 70) #[] #[], .func (.func 71) #[] #[], .func (.func 72) #[] #[], .func (.func m) #[] #[]] 59) (.cells #[.int .i64 s] 2)
  rw [← hw4] at hl4
  obtain ⟨_, N4, F4, S4, z4, b4⟩ := hl4
  have L4 := L2.trans (b4.mono L2.size)
  have I4 : w4.heap[w.heap.size + 1]? = some (.cells #[.int .i64 i] 2 (0, 0)) := (b4.block _ (by omega)).trans ((b2.block _ (by omega)).trans I0)
  have T4 : w4.heap[w.heap.size + 1 + 1]? = some (.cells #[.int .i64 t] 2 (0, 0)) := (b4.block _ (by omega)).trans ((b2.block _ (by omega)).trans T0)
  have R4 : w4.heap[w.heap.size + 1 + 1 + 1]? = some (.cells #[.slice none 0 0] 26 (0, 0)) := (b4.block _ (by omega)).trans ((b2.block _ (by omega)).trans R0)
  have hlow : w.heap.size + 4 ≤ w2.heap.size := by omega
  rw [← HV0.out] at N4
  clear hw4 P3 I3 T3 b2 hw3 b3 w3 hfi hwi hwt P0 I0 T0 R0 b0 HW s2 z0 W0
  gi_wp2
  refine wpIn_rangeFunc_footV (α := Vis) rfl (by decide) (gf := 53) (lb := #[.pointer (some ⟨w2.heap.size + 1 + 1 + 1, 0, none⟩), .pointer (some ⟨w2.heap.size + 1 + 1, 0, none⟩), .pointer (some ⟨w2.heap.size + 1, 0, none⟩)]) (by simp [go_sem]) trivial (enters_of Try.func53 (by kernel_rfl) rfl)
    (visits_foot _ (w2.heap.size + 1) (w2.heap.size + 1 + 1) (w2.heap.size + 1 + 1 + 1) ss c s v m w w4 hok hsm hc HMF.out HV.out L4 N4 F4 S4) (Below.refl _ _) (fun _ => rfl) (vg_put c ss s w.heap.size)
    (fun r => r = w.heap.size + 1 + 1 + 1) (fun r hr => by omega) (fun r hr => by have := L2.size; rcases hr with h | h | h <;> omega)
    (PSt w i t) (PIx w i t) (pst_own w i t w4.heap.size (by omega)) (pix_put w i t w4.heap.size (by omega))
    ⟨by simp, I4, T4, R4, .inl rfl, L4⟩ (fun x Vb => { tmps := #[.agg #[v], .int .i64 c, .int .i64 s, .int .i64 i, .int .i64 t, .pointer (some ⟨w.heap.size, 0, none⟩), undef, undef, .pointer (some ⟨w.heap.size + 1, 0, none⟩), .pointer (some ⟨w.heap.size + 1 + 1, 0, none⟩), .pointer (some ⟨w.heap.size + 1 + 1 + 1, 0, none⟩), .pointer (some ⟨w2.heap.size, 0, none⟩), .bool true, .pointer (some ⟨Vb, 0, none⟩), .tuple #[.agg #[.func (.func 70) #[] #[], .func (.func 71) #[] #[], .func (.func 72) #[] #[], .func (.func m) #[] #[]], .bool true], .agg #[v], .int .i64 c, .int .i64 s, .tuple #[.agg #[.func (.func 70) #[] #[], .func (.func 71) #[] #[], .func (.func 72) #[] #[], .func (.func m) #[] #[]], .bool true], .agg #[.func (.func 70) #[] #[], .func (.func 71) #[] #[], .func (.func 72) #[] #[], .func (.func m) #[] #[]], .bool true, .bool true, .bool false, .bool false, .int .i64 i, .pointer (some ⟨w.heap.size, 0, none⟩), .slice vo ss.length vc, .int .i64 ss.length, .bool true, .bool false, .bool false, .bool false, .int .i64 t, .bool true, .bool false, .bool false, .agg #[.slice vo ss.length vc], .agg #[.func (.func 70) #[] #[], .func (.func 71) #[] #[], .func (.func 72) #[] #[], .func (.func m) #[] #[]], .int .i64 s, .func (.func 53) #[] #[.pointer (some ⟨w2.heap.size + 1 + 1 + 1, 0, none⟩), .pointer (some ⟨w2.heap.size + 1 + 1, 0, none⟩), .pointer (some ⟨w2.heap.size + 1, 0, none⟩)], .agg #[x.u, .int .i64 x.set], undef, undef, undef, undef, undef, undef, undef, undef, undef, undef, undef, undef, undef], defers := [] })
    (fun x => .cells #[x.u, .int .i64 x.set] 67) (fun x f W h => vg_alloc c ss s w.heap.size x f W _ h) ?assign ?body ?done ?stop
  case assign =>
    rintro l x W K ⟨f, hG⟩ hK
    obtain ⟨xo, xm, xc, hxu⟩ := own_slice hG.1
    rw [hxu] at hK ⊢
    gi_wp2
    exact hK
  case stop =>
    rintro D cc pre f W hD ⟨pre1, x1, work, fs, e1, hVI, hxw, hmin⟩ ⟨rfl, ⟨pre', x, e, h1, h2, h3, h4, h5⟩, hbl⟩ hK
    rw [e1] at e
    obtain ⟨rfl, e⟩ := List.append_inj' e rfl
    obtain rfl : x1 = x := by simpa using e
    have hAe : A = x1.way := proof_unique hA (stop_proof hok hsm hVI hxw hmin ht7 h2 h3 h1)
    rw [← hAe] at h5
    clear hmin hVI hAe h1 e1
    gi_wp2
    refine ⟨by simp, .inl ⟨_, _, rfl, run_takeDeferred hK, ?_⟩⟩
    have hne : w.heap.size + 1 + 1 + 1 ≠ D := by omega
    have X5 : (W.putObj D (.deferred none)).heap[w.heap.size + 1 + 1 + 1]? = some (.cells #[x1.u] 26 (0, 0)) := (World.putObj_heap_other (by omega)).trans h4
    obtain ⟨c5, _⟩ := one_cell X5
    refine ⟨x1.u, ?_, _, rfl, ownsRow_putObj h5 _ hK rfl, hbl.trans (belowK_b (w := w) (Nat.le_refl _) _ D _ _ (by omega) hK rfl rfl)⟩
    simp [results, Try.f8, go_sem, c5]
  case done =>
    rintro D xs f W hD ⟨fs, hVI⟩ ⟨h1, h2, h3, h4, hf, hbl⟩ hK
    obtain rfl : A = [] := proof_unique hA (done_proof hok hsm hVI ht7 h1)
    obtain ⟨c3, z3⟩ := one_cell h4
    have G3 := one_set h4 (.slice none 0 0)
    clear h2 h3 h1 hVI
    gi_wp2
    have hK' := (KeepsOthers.setCell W ⟨w.heap.size + 1 + 1 + 1, 0, none⟩ (.slice none 0 0)).same D _ hK rfl
    refine ⟨by simp, .inl ⟨_, _, rfl, run_takeDeferred hK', ?_⟩⟩
    have hne : w.heap.size + 1 + 1 + 1 ≠ D := by omega
    have X5 : ((W.setCell ⟨w.heap.size + 1 + 1 + 1, 0, none⟩ (.slice none 0 0)).putObj D (.deferred none)).heap[w.heap.size + 1 + 1 + 1]? = some (.cells #[.slice none 0 0] 26 (0, 0)) := (World.putObj_heap_other (by omega)).trans G3
    obtain ⟨c5, _⟩ := one_cell X5
    refine ⟨.slice none 0 0, ?_, _, rfl, nil_own _ _, (hbl.setCell (by simp; omega) _).trans (belowK_b (w := w) (Nat.le_refl _) _ D _ _ (by omega) hK' rfl rfl)⟩
    simp [results, Try.f8, go_sem, c5]
  case body =>
    rintro l pre x f W Vb ⟨h1, h2, h3, h4, hf, hbl⟩ hG hflt hfD hlen hVb hnV
    obtain ⟨hxo, hxf, hxs, hxR, hxS⟩ := hG
    obtain ⟨xo, xm, xc, hxu⟩ := own_slice hxo
    obtain ⟨j, hj, hjl⟩ := RW_in hok hxR
    have hsx : Small x.set := by rw [hxS]; exact st_small hok hsm hxR
    have bd : Below W.heap.size W W.drew := Below.drew (Below.refl _ _)
    have hat := fun W' (hW' : Below W.drew.heap.size W.drew W') => visitAt x w.heap.size W' (own_kept hxo (bd.trans (hW'.mono bd.size))) hxR.1 hxs
    have hpow : (1 : Int) * 2 ^ t ≤ 64 ∧ (1 : Int) ≤ 2 ^ t := by
      have hc : t = 0 ∨ t = 1 ∨ t = 2 ∨ t = 3 ∨ t = 4 ∨ t = 5 ∨ t = 6 := by omega
      rcases hc with rfl | rfl | rfl | rfl | rfl | rfl | rfl <;> decide
    have hha := fun W' => hasAll x.set (2 ^ t) hsx ⟨by omega, by omega⟩ W'
    obtain ⟨ci, _⟩ := one_cell h2
    obtain ⟨ct, _⟩ := one_cell h3
    rw [hj, hxu] at hat
    rw [hxu] at hVb
    have cv0 : W.drew.cell? ⟨Vb, 0, none⟩ = some (.slice xo xm xc) := by
      show W.cell? _ = _
      rw [cell_of_row _ _ 0 _ _ (0, 0) hVb]; rfl
    have cv1 : W.drew.cell? ⟨Vb, 1, none⟩ = some (.int .i64 x.set) := by
      show W.cell? _ = _
      rw [cell_of_row _ _ 1 _ _ (0, 0) hVb]; rfl
    have zV : Vb < W.drew.heap.size := (Array.getElem?_eq_some_iff.1 hVb).1
    obtain ⟨Ib, hIb⟩ : ∃ b, w.heap.size + 1 = b := ⟨_, rfl⟩
    obtain ⟨Tb, hTb⟩ : ∃ b, w.heap.size + 1 + 1 = b := ⟨_, rfl⟩
    obtain ⟨Rb, hRb⟩ : ∃ b, w.heap.size + 1 + 1 + 1 = b := ⟨_, rfl⟩
    have zI : Ib < W.drew.heap.size := hIb ▸ (Array.getElem?_eq_some_iff.1 h2).1
    have zT : Tb < W.drew.heap.size := hTb ▸ (Array.getElem?_eq_some_iff.1 h3).1
    have ci : W.drew.cell? ⟨Ib, 0, none⟩ = some (.int .i64 i) := hIb ▸ ci
    have ct : W.drew.cell? ⟨Tb, 0, none⟩ = some (.int .i64 t) := hTb ▸ ct
    have HA0 : Hid (∀ wz, Below W.drew.heap.size W.drew wz → ¬ (lastI x.way = (i : Int) ∧ bit x.set t = true) → footPost (PSt w i t) (PIx w i t) (pre ++ [x]) f W .normal { tmps := #[], defers := [] } wz) := by
      intro wz hz0 hno
      have hz : Below W.heap.size W wz := bd.trans (hz0.mono bd.size)
      have hg : W.grownBy wz none := grown_of_below hz none
      refine ⟨KeepsOthers.of_grownBy hg (fun j o e h => by cases e), f, Outside.grown hg hflt (fun r e => by cases e), ⟨fun y hy => ?_, ?_, ?_, ?_, hf, hbl.trans (hz.mono hbl.size)⟩⟩
      · rcases List.mem_append.1 hy with hy | hy
        · exact h1 y hy
        · simp at hy; subst hy; exact hno
      · exact (hz.block _ (Array.getElem?_eq_some_iff.1 h2).1).trans h2
      · exact (hz.block _ (Array.getElem?_eq_some_iff.1 h3).1).trans h3
      · exact (hz.block _ (Array.getElem?_eq_some_iff.1 h4).1).trans h4
    have HA1 : Hid (∀ wz, Below W.drew.heap.size W.drew wz → lastI x.way = (i : Int) ∧ bit x.set t = true → footPost (PSt w i t) (PIx w i t) (pre ++ [x]) f W .ret { tmps := #[], defers := [] } (wz.setCell ⟨Rb, 0, none⟩ (.slice xo xm xc))) := by
      intro wz hz0 ⟨hy1, hy2⟩
      rw [hRb] at h4 hf
      have hz : Below W.heap.size W wz := bd.trans (hz0.mono bd.size)
      have r4 := (hz.block _ (Array.getElem?_eq_some_iff.1 h4).1).trans h4
      have gs := grown_setCell1H wz Rb 0 (.slice xo xm xc)
      have hg : W.grownBy (wz.setCell ⟨Rb, 0, none⟩ (.slice xo xm xc)) (some Rb) := grown_trans (grown_of_below hz (some Rb)) gs
      have O9 := own_kept hxo hz
      refine ⟨KeepsOthers.of_grownBy hg (fun j o e h => by cases e; rw [h4] at h; cases h; rfl), f, Outside.grown hg hflt (fun r e => by cases e; exact hf), rfl, ⟨pre, x, rfl, h1, hy1, hy2, ?_, own_same O9 (fun k hk => ?_)⟩, hbl.grown hg hbl.size (fun k e => by cases e; omega)⟩
      · rw [hRb, hxu]; exact one_set r4 _
      · obtain ⟨cur, hcur⟩ := own_blk O9 hk
        refine gs.block k (Array.getElem?_eq_some_iff.1 hcur).1 ?_
        intro e
        cases e
        rw [r4] at hcur
        simp at hcur
    obtain ⟨cr, fr⟩ := one_cell h4
    rw [hRb] at cr fr
    have zR : Rb < W.drew.heap.size := hRb ▸ (Array.getElem?_eq_some_iff.1 h4).1
    have cr : W.drew.cell? ⟨Rb, 0, none⟩ = some (.slice none 0 0) := cr
    have fr : W.drew.frozen? ⟨Rb, 0, none⟩ = false := fr
    rw [hasA_pow hsx ht7] at hha
    rw [hxu, hRb, hTb, hIb]
    generalize x.set = xs at *
    have hend0 := HA0.out
    have hend1 := HA1.out
    clear HA0 HA1 h1 h2 h3 h4 hxo hVb hxS hxu hxR hxf hA hIb hTb hRb I4 T4 R4 N4 F4 S4
    by_cases hx : i = j
    · subst hx
      rw [hj] at hend0 hend1
      clear hj
      gi_wp2
      --RT
      refine wpIn_region_inv (by kernel_rfl) (by kernel_rfl) (PTI (.slice xo xm xc) (.pointer (some ⟨Rb, 0, none⟩)) xs i i t Ib Tb Vb W.drew) ?h0 ?hs ?he
      case h0 => exact ⟨_, _, _, _, _, _, _, _, _, _, _, _, _, _, _, _, _, _, _, _, _, _, _, _, _, _, _, _, _, _, _, _, _, _, _, _, _, _, _, _, _, _, _, _, _, _, _, _, _, _, rfl, Below.refl _ _, by simp, by simp, by simp, by simp, by simp, by simp, by simp, by simp, by simp, by simp, by simp⟩
      case hs =>
        intro l' k o a wr ho hI hli haf
        obtain ⟨y0, y1, y2, y3, y4, y5, y6, y7, y11, y12, y14, y15, y16, y17, y18, y19, y20, y21, y22, y23, y24, y25, y26, y27, y28, y29, y30, y31, y32, y33, y34, y35, y36, y37, y38, y39, y40, y52, y53, x41, x42, x43, x44, x45, x46, x47, x48, x49, x50, x51, rfl, hB, pf⟩ := hI
        obtain ⟨p0, p1, p2, p3, p4, p5, p6, p7, p8, p9, p10⟩ := pf
        have hk9 : k < 11 := (Array.getElem?_eq_some_iff.1 ho).1
        have HBW : Hid _ := hB
        obtain ⟨hcW, hfW⟩ := bcell hB
        have c0 := (hcW _ 0 zV).trans cv0
        have c1 := (hcW _ 1 zV).trans cv1
        have c2 := (hcW _ 0 zI).trans ci
        have c3 := (hcW _ 0 zT).trans ct
        clear hB hcW hfW
        have hcases : k = 0 ∨ k = 1 ∨ k = 2 ∨ k = 3 ∨ k = 4 ∨ k = 5 ∨ k = 6 ∨ k = 7 ∨ k = 8 ∨ k = 9 ∨ k = 10 := by omega
        rcases hcases with rfl | rfl | rfl | rfl | rfl | rfl | rfl | rfl | rfl | rfl | rfl
        · simp only [List.getElem?_toArray, List.getElem?_cons_zero, Option.some.injEq] at ho
          subst ho
          have HPF : Hid _ := (And.intro p0 (And.intro p1 (And.intro p2 (And.intro p3 (And.intro p4 (And.intro p5 (And.intro p6 (And.intro p7 (And.intro p8 (And.intro p9 p10))))))))))
          clear p0 p1 p2 p3 p4 p5 p6 p7 p8 p9 p10
          clear haf
          gi_wp2
          obtain ⟨p0, p1, p2, p3, p4, p5, p6, p7, p8, p9, p10⟩ := HPF.out
          exact ⟨_, _, _, _, _, _, _, _, _, _, _, _, _, _, _, _, _, _, _, _, _, _, _, _, _, _, _, _, _, _, _, _, _, _, _, _, _, _, _, _, _, _, _, _, _, _, _, _, _, _, rfl, HBW.out, fun _ => rfl, p1, p2, p3, p4, p5, p6, p7, p8, p9, p10⟩
        · simp only [List.getElem?_toArray, List.getElem?_cons_zero, List.getElem?_cons_succ, Option.some.injEq] at ho
          subst ho
          simp [Region.binds] at haf
          obtain rfl : x41 = _ := p0 (haf)
          have HPF : Hid _ := (And.intro p0 (And.intro p1 (And.intro p2 (And.intro p3 (And.intro p4 (And.intro p5 (And.intro p6 (And.intro p7 (And.intro p8 (And.intro p9 p10))))))))))
          clear p0 p1 p2 p3 p4 p5 p6 p7 p8 p9 p10
          clear haf
          gi_wp2
          refine ⟨trivial, ?_⟩
          refine ((callsIn_wide.2 (hat _ HBW.out)).inRound l).mono ?_
          rintro e w9 ⟨rfl, b9⟩
          have HB9 : Hid (Below W.drew.heap.size W.drew w9) := HBW.out.trans (b9.mono HBW.out.size)
          clear b9
          gi_wp2
          obtain ⟨p0, p1, p2, p3, p4, p5, p6, p7, p8, p9, p10⟩ := HPF.out
          exact ⟨_, _, _, _, _, _, _, _, _, _, _, _, _, _, _, _, _, _, _, _, _, _, _, _, _, _, _, _, _, _, _, _, _, _, _, _, _, _, _, _, _, _, _, _, _, _, _, _, _, _, rfl, HB9.out, fun _ => rfl, fun _ => rfl, p2, p3, p4, p5, p6, p7, p8, p9, p10⟩
        · simp only [List.getElem?_toArray, List.getElem?_cons_zero, List.getElem?_cons_succ, Option.some.injEq] at ho
          subst ho
          have HPF : Hid _ := (And.intro p0 (And.intro p1 (And.intro p2 (And.intro p3 (And.intro p4 (And.intro p5 (And.intro p6 (And.intro p7 (And.intro p8 (And.intro p9 p10))))))))))
          clear p0 p1 p2 p3 p4 p5 p6 p7 p8 p9 p10
          clear haf
          gi_wp2
          obtain ⟨p0, p1, p2, p3, p4, p5, p6, p7, p8, p9, p10⟩ := HPF.out
          exact ⟨_, _, _, _, _, _, _, _, _, _, _, _, _, _, _, _, _, _, _, _, _, _, _, _, _, _, _, _, _, _, _, _, _, _, _, _, _, _, _, _, _, _, _, _, _, _, _, _, _, _, rfl, HBW.out, p0, p1, fun _ => rfl, p3, p4, p5, p6, p7, p8, p9, p10⟩
        · simp only [List.getElem?_toArray, List.getElem?_cons_zero, List.getElem?_cons_succ, Option.some.injEq] at ho
          subst ho
          simp [Region.binds] at haf
          obtain rfl : x42 = _ := p1 (haf.1)
          obtain rfl : x43 = _ := p2 (haf.2)
          have HPF : Hid _ := (And.intro p0 (And.intro p1 (And.intro p2 (And.intro p3 (And.intro p4 (And.intro p5 (And.intro p6 (And.intro p7 (And.intro p8 (And.intro p9 p10))))))))))
          clear p0 p1 p2 p3 p4 p5 p6 p7 p8 p9 p10
          clear haf
          gi_wp2
          obtain ⟨p0, p1, p2, p3, p4, p5, p6, p7, p8, p9, p10⟩ := HPF.out
          exact ⟨_, _, _, _, _, _, _, _, _, _, _, _, _, _, _, _, _, _, _, _, _, _, _, _, _, _, _, _, _, _, _, _, _, _, _, _, _, _, _, _, _, _, _, _, _, _, _, _, _, _, rfl, HBW.out, p0, fun _ => rfl, fun _ => rfl, fun _ => rfl, p4, p5, p6, p7, p8, p9, p10⟩
        · simp only [List.getElem?_toArray, List.getElem?_cons_zero, List.getElem?_cons_succ, Option.some.injEq] at ho
          subst ho
          simp [Region.binds] at haf
          obtain rfl : x44 = _ := p3 (haf.1)
          have HPF : Hid _ := (And.intro p0 (And.intro p1 (And.intro p2 (And.intro p3 (And.intro p4 (And.intro p5 (And.intro p6 (And.intro p7 (And.intro p8 (And.intro p9 p10))))))))))
          clear p0 p1 p2 p3 p4 p5 p6 p7 p8 p9 p10
          clear haf
          gi_wp2
          obtain ⟨p0, p1, p2, p3, p4, p5, p6, p7, p8, p9, p10⟩ := HPF.out
          exact ⟨_, _, _, _, _, _, _, _, _, _, _, _, _, _, _, _, _, _, _, _, _, _, _, _, _, _, _, _, _, _, _, _, _, _, _, _, _, _, _, _, _, _, _, _, _, _, _, _, _, _, rfl, HBW.out, p0, p1, p2, fun _ => rfl, fun _ => rfl, p5, p6, p7, p8, p9, p10⟩
        · simp only [List.getElem?_toArray, List.getElem?_cons_zero, List.getElem?_cons_succ, Option.some.injEq] at ho
          subst ho
          simp [Region.binds] at haf
          obtain rfl : x45 = _ := p4 (haf)
          have HPF : Hid _ := (And.intro p0 (And.intro p1 (And.intro p2 (And.intro p3 (And.intro p4 (And.intro p5 (And.intro p6 (And.intro p7 (And.intro p8 (And.intro p9 p10))))))))))
          clear p0 p1 p2 p3 p4 p5 p6 p7 p8 p9 p10
          clear haf
          gi_wp2
          obtain ⟨p0, p1, p2, p3, p4, p5, p6, p7, p8, p9, p10⟩ := HPF.out
          exact ⟨_, _, _, _, _, _, _, _, _, _, _, _, _, _, _, _, _, _, _, _, _, _, _, _, _, _, _, _, _, _, _, _, _, _, _, _, _, _, _, _, _, _, _, _, _, _, _, _, _, _, rfl, HBW.out, p0, p1, p2, p3, fun _ => rfl, fun _ => rfl, p6, p7, p8, p9, p10⟩
        · simp only [List.getElem?_toArray, List.getElem?_cons_zero, List.getElem?_cons_succ, Option.some.injEq] at ho
          subst ho
          simp [Region.binds] at haf
          obtain rfl : x46 = _ := p5 (haf.1)
          obtain rfl : x45 = _ := p4 (haf.2)
          have HPF : Hid _ := (And.intro p0 (And.intro p1 (And.intro p2 (And.intro p3 (And.intro p4 (And.intro p5 (And.intro p6 (And.intro p7 (And.intro p8 (And.intro p9 p10))))))))))
          clear p0 p1 p2 p3 p4 p5 p6 p7 p8 p9 p10
          clear haf
          gi_wp2
          obtain ⟨p0, p1, p2, p3, p4, p5, p6, p7, p8, p9, p10⟩ := HPF.out
          exact ⟨_, _, _, _, _, _, _, _, _, _, _, _, _, _, _, _, _, _, _, _, _, _, _, _, _, _, _, _, _, _, _, _, _, _, _, _, _, _, _, _, _, _, _, _, _, _, _, _, _, _, rfl, HBW.out, p0, p1, p2, p3, fun _ => rfl, fun _ => rfl, fun _ => rfl, p7, p8, p9, p10⟩
        · simp only [List.getElem?_toArray, List.getElem?_cons_zero, List.getElem?_cons_succ, Option.some.injEq] at ho
          subst ho
          simp [Region.binds] at haf
          obtain rfl : x45 = _ := p4 (haf)
          have HPF : Hid _ := (And.intro p0 (And.intro p1 (And.intro p2 (And.intro p3 (And.intro p4 (And.intro p5 (And.intro p6 (And.intro p7 (And.intro p8 (And.intro p9 p10))))))))))
          clear p0 p1 p2 p3 p4 p5 p6 p7 p8 p9 p10
          clear haf
          gi_wp2
          obtain ⟨p0, p1, p2, p3, p4, p5, p6, p7, p8, p9, p10⟩ := HPF.out
          exact ⟨_, _, _, _, _, _, _, _, _, _, _, _, _, _, _, _, _, _, _, _, _, _, _, _, _, _, _, _, _, _, _, _, _, _, _, _, _, _, _, _, _, _, _, _, _, _, _, _, _, _, rfl, HBW.out, p0, p1, p2, p3, fun _ => rfl, p5, p6, fun _ => rfl, p8, p9, p10⟩
        · simp only [List.getElem?_toArray, List.getElem?_cons_zero, List.getElem?_cons_succ, Option.some.injEq] at ho
          subst ho
          simp [Region.binds] at haf
          obtain rfl : x48 = _ := p7 (haf.1)
          obtain rfl : x45 = _ := p4 (haf.2)
          have HPF : Hid _ := (And.intro p0 (And.intro p1 (And.intro p2 (And.intro p3 (And.intro p4 (And.intro p5 (And.intro p6 (And.intro p7 (And.intro p8 (And.intro p9 p10))))))))))
          clear p0 p1 p2 p3 p4 p5 p6 p7 p8 p9 p10
          clear haf
          gi_wp2
          obtain ⟨p0, p1, p2, p3, p4, p5, p6, p7, p8, p9, p10⟩ := HPF.out
          exact ⟨_, _, _, _, _, _, _, _, _, _, _, _, _, _, _, _, _, _, _, _, _, _, _, _, _, _, _, _, _, _, _, _, _, _, _, _, _, _, _, _, _, _, _, _, _, _, _, _, _, _, rfl, HBW.out, p0, p1, p2, p3, fun _ => rfl, p5, p6, fun _ => rfl, fun _ => rfl, p9, p10⟩
        · simp only [List.getElem?_toArray, List.getElem?_cons_zero, List.getElem?_cons_succ, Option.some.injEq] at ho
          subst ho
          simp [Region.binds] at haf
          obtain rfl : x47 = _ := p6 (haf.1)
          obtain rfl : x49 = _ := p8 (haf.2.1)
          obtain rfl : x45 = _ := p4 (haf.2.2)
          have HPF : Hid _ := (And.intro p0 (And.intro p1 (And.intro p2 (And.intro p3 (And.intro p4 (And.intro p5 (And.intro p6 (And.intro p7 (And.intro p8 (And.intro p9 p10))))))))))
          clear p0 p1 p2 p3 p4 p5 p6 p7 p8 p9 p10
          clear haf
          gi_wp2
          refine ⟨trivial, ?_⟩
          refine ((callsIn_wide.2 (hha _)).inRound l).mono ?_
          rintro e w9 ⟨rfl, rfl⟩
          gi_wp2
          obtain ⟨p0, p1, p2, p3, p4, p5, p6, p7, p8, p9, p10⟩ := HPF.out
          exact ⟨_, _, _, _, _, _, _, _, _, _, _, _, _, _, _, _, _, _, _, _, _, _, _, _, _, _, _, _, _, _, _, _, _, _, _, _, _, _, _, _, _, _, _, _, _, _, _, _, _, _, rfl, HBW.out, p0, p1, p2, p3, fun _ => rfl, p5, fun _ => rfl, p7, fun _ => rfl, fun _ => rfl, p10⟩
        · simp only [List.getElem?_toArray, List.getElem?_cons_zero, List.getElem?_cons_succ, Option.some.injEq] at ho
          subst ho
          simp [Region.binds] at haf
          obtain rfl : x45 = _ := p4 (haf.1)
          obtain rfl : x50 = _ := p9 (haf.2)
          have HPF : Hid _ := (And.intro p0 (And.intro p1 (And.intro p2 (And.intro p3 (And.intro p4 (And.intro p5 (And.intro p6 (And.intro p7 (And.intro p8 (And.intro p9 p10))))))))))
          clear p0 p1 p2 p3 p4 p5 p6 p7 p8 p9 p10
          clear haf
          gi_wp2
          obtain ⟨p0, p1, p2, p3, p4, p5, p6, p7, p8, p9, p10⟩ := HPF.out
          exact ⟨_, _, _, _, _, _, _, _, _, _, _, _, _, _, _, _, _, _, _, _, _, _, _, _, _, _, _, _, _, _, _, _, _, _, _, _, _, _, _, _, _, _, _, _, _, _, _, _, _, _, rfl, HBW.out, p0, p1, p2, p3, fun _ => rfl, p5, p6, p7, p8, fun _ => rfl, fun _ => rfl⟩
      case he =>
        intro l' a wr hI hall
        obtain ⟨y0, y1, y2, y3, y4, y5, y6, y7, y11, y12, y14, y15, y16, y17, y18, y19, y20, y21, y22, y23, y24, y25, y26, y27, y28, y29, y30, y31, y32, y33, y34, y35, y36, y37, y38, y39, y40, y52, y53, x41, x42, x43, x44, x45, x46, x47, x48, x49, x50, x51, rfl, hB, pf⟩ := hI
        obtain ⟨p0, p1, p2, p3, p4, p5, p6, p7, p8, p9, p10⟩ := pf
        obtain rfl : x51 = _ := p10 (hall 10 (by decide))
        clear p0 p1 p2 p3 p4 p5 p6 p7 p8 p9 hall
      --RTEND
        cases hb : bit xs t
        · clear hend1 hha
          gi_wp2
          exact hend0 wr hB (by simp [hb])
        · obtain ⟨hcW, hfW⟩ := bcell hB
          have d0 := (hcW _ 0 zV).trans cv0
          have d1 := (hcW _ 0 zR).trans cr
          have d2 := (hfW _ 0 zR).trans fr
          have HB : Hid _ := hB
          clear hcW hfW hB hend0 hha
          gi_wp2
          exact hend1 wr HB.out (by simp [hb])
    · have hne : ¬ (j : Int) = (i : Int) := by omega
      have hne' : ((j : Int) == (i : Int)) = false := by simpa using hne
      rw [hj] at hend0
      clear hend1 hj
      gi_wp2
      --RN
      refine wpIn_region_inv (by kernel_rfl) (by kernel_rfl) (PNI (.slice xo xm xc) (.pointer (some ⟨Rb, 0, none⟩)) xs j i t Ib Tb Vb W.drew) ?h0 ?hs ?he
      case h0 => exact ⟨_, _, _, _, _, _, _, _, _, _, _, _, _, _, _, _, _, _, _, _, _, _, _, _, _, _, _, _, _, _, _, _, _, _, _, _, _, _, _, _, _, _, _, _, _, _, _, _, _, _, rfl, Below.refl _ _, by simp, by simp, by simp, by simp, by simp, by simp⟩
      case hs =>
        intro l' k o a wr ho hI hli haf
        obtain ⟨y0, y1, y2, y3, y4, y5, y6, y7, y11, y12, y14, y15, y16, y17, y18, y19, y20, y21, y22, y23, y24, y25, y26, y27, y28, y29, y30, y31, y32, y33, y34, y35, y36, y37, y38, y39, y40, y52, y53, x41, x42, x43, x44, x45, x46, x47, x48, x49, x50, x51, rfl, hB, pf⟩ := hI
        obtain ⟨p0, p1, p2, p3, p4, p10⟩ := pf
        have hk9 : k < 11 := (Array.getElem?_eq_some_iff.1 ho).1
        have HBW : Hid _ := hB
        obtain ⟨hcW, hfW⟩ := bcell hB
        have c0 := (hcW _ 0 zV).trans cv0
        have c1 := (hcW _ 1 zV).trans cv1
        have c2 := (hcW _ 0 zI).trans ci
        have c3 := (hcW _ 0 zT).trans ct
        clear hB hcW hfW
        have hcases : k = 0 ∨ k = 1 ∨ k = 2 ∨ k = 3 ∨ k = 4 ∨ k = 5 ∨ k = 6 ∨ k = 7 ∨ k = 8 ∨ k = 9 ∨ k = 10 := by omega
        rcases hcases with rfl | rfl | rfl | rfl | rfl | rfl | rfl | rfl | rfl | rfl | rfl
        · simp only [List.getElem?_toArray, List.getElem?_cons_zero, Option.some.injEq] at ho
          subst ho
          have HPF : Hid _ := (And.intro p0 (And.intro p1 (And.intro p2 (And.intro p3 (And.intro p4 p10)))))
          clear p0 p1 p2 p3 p4 p10
          clear haf
          gi_wp2
          obtain ⟨p0, p1, p2, p3, p4, p10⟩ := HPF.out
          exact ⟨_, _, _, _, _, _, _, _, _, _, _, _, _, _, _, _, _, _, _, _, _, _, _, _, _, _, _, _, _, _, _, _, _, _, _, _, _, _, _, _, _, _, _, _, _, _, _, _, _, _, rfl, HBW.out, fun _ => rfl, p1, p2, p3, p4, p10⟩
        · simp only [List.getElem?_toArray, List.getElem?_cons_zero, List.getElem?_cons_succ, Option.some.injEq] at ho
          subst ho
          simp [Region.binds] at haf
          obtain rfl : x41 = _ := p0 (haf)
          have HPF : Hid _ := (And.intro p0 (And.intro p1 (And.intro p2 (And.intro p3 (And.intro p4 p10)))))
          clear p0 p1 p2 p3 p4 p10
          clear haf
          gi_wp2
          refine ⟨trivial, ?_⟩
          refine ((callsIn_wide.2 (hat _ HBW.out)).inRound l).mono ?_
          rintro e w9 ⟨rfl, b9⟩
          have HB9 : Hid (Below W.drew.heap.size W.drew w9) := HBW.out.trans (b9.mono HBW.out.size)
          clear b9
          gi_wp2
          obtain ⟨p0, p1, p2, p3, p4, p10⟩ := HPF.out
          exact ⟨_, _, _, _, _, _, _, _, _, _, _, _, _, _, _, _, _, _, _, _, _, _, _, _, _, _, _, _, _, _, _, _, _, _, _, _, _, _, _, _, _, _, _, _, _, _, _, _, _, _, rfl, HB9.out, fun _ => rfl, fun _ => rfl, p2, p3, p4, p10⟩
        · simp only [List.getElem?_toArray, List.getElem?_cons_zero, List.getElem?_cons_succ, Option.some.injEq] at ho
          subst ho
          have HPF : Hid _ := (And.intro p0 (And.intro p1 (And.intro p2 (And.intro p3 (And.intro p4 p10)))))
          clear p0 p1 p2 p3 p4 p10
          clear haf
          gi_wp2
          obtain ⟨p0, p1, p2, p3, p4, p10⟩ := HPF.out
          exact ⟨_, _, _, _, _, _, _, _, _, _, _, _, _, _, _, _, _, _, _, _, _, _, _, _, _, _, _, _, _, _, _, _, _, _, _, _, _, _, _, _, _, _, _, _, _, _, _, _, _, _, rfl, HBW.out, p0, p1, fun _ => rfl, p3, p4, p10⟩
        · simp only [List.getElem?_toArray, List.getElem?_cons_zero, List.getElem?_cons_succ, Option.some.injEq] at ho
          subst ho
          simp [Region.binds] at haf
          obtain rfl : x42 = _ := p1 (haf.1)
          obtain rfl : x43 = _ := p2 (haf.2)
          have HPF : Hid _ := (And.intro p0 (And.intro p1 (And.intro p2 (And.intro p3 (And.intro p4 p10)))))
          clear p0 p1 p2 p3 p4 p10
          clear haf
          gi_wp2
          obtain ⟨p0, p1, p2, p3, p4, p10⟩ := HPF.out
          exact ⟨_, _, _, _, _, _, _, _, _, _, _, _, _, _, _, _, _, _, _, _, _, _, _, _, _, _, _, _, _, _, _, _, _, _, _, _, _, _, _, _, _, _, _, _, _, _, _, _, _, _, rfl, HBW.out, p0, fun _ => rfl, fun _ => rfl, fun _ => rfl, p4, p10⟩
        · simp only [List.getElem?_toArray, List.getElem?_cons_zero, List.getElem?_cons_succ, Option.some.injEq] at ho
          subst ho
          simp [Region.binds] at haf
          obtain rfl : x44 = _ := p3 (haf.1)
          have HPF : Hid _ := (And.intro p0 (And.intro p1 (And.intro p2 (And.intro p3 (And.intro p4 p10)))))
          clear p0 p1 p2 p3 p4 p10
          clear haf
          gi_wp2
          obtain ⟨p0, p1, p2, p3, p4, p10⟩ := HPF.out
          exact ⟨_, _, _, _, _, _, _, _, _, _, _, _, _, _, _, _, _, _, _, _, _, _, _, _, _, _, _, _, _, _, _, _, _, _, _, _, _, _, _, _, _, _, _, _, _, _, _, _, _, _, rfl, HBW.out, p0, p1, p2, fun _ => rfl, fun _ => rfl, p10⟩
        · simp only [List.getElem?_toArray, List.getElem?_cons_zero, List.getElem?_cons_succ, Option.some.injEq] at ho
          subst ho
          simp [Region.binds] at haf
          obtain rfl : x45 = _ := p4 (haf)
          have HPF : Hid _ := (And.intro p0 (And.intro p1 (And.intro p2 (And.intro p3 (And.intro p4 p10)))))
          clear p0 p1 p2 p3 p4 p10
          clear haf
          gi_wp2
          obtain ⟨p0, p1, p2, p3, p4, p10⟩ := HPF.out
          exact ⟨_, _, _, _, _, _, _, _, _, _, _, _, _, _, _, _, _, _, _, _, _, _, _, _, _, _, _, _, _, _, _, _, _, _, _, _, _, _, _, _, _, _, _, _, _, _, _, _, _, _, rfl, HBW.out, p0, p1, p2, p3, fun _ => rfl, p10⟩
        · simp only [List.getElem?_toArray, List.getElem?_cons_zero, List.getElem?_cons_succ, Option.some.injEq] at ho
          subst ho
          simp [Region.binds] at haf
          obtain rfl : x45 = _ := p4 (haf.2)
          have HPF : Hid _ := (And.intro p0 (And.intro p1 (And.intro p2 (And.intro p3 (And.intro p4 p10)))))
          clear p0 p1 p2 p3 p4 p10
          clear haf
          gi_wp2
          obtain ⟨p0, p1, p2, p3, p4, p10⟩ := HPF.out
          exact ⟨_, _, _, _, _, _, _, _, _, _, _, _, _, _, _, _, _, _, _, _, _, _, _, _, _, _, _, _, _, _, _, _, _, _, _, _, _, _, _, _, _, _, _, _, _, _, _, _, _, _, rfl, HBW.out, p0, p1, p2, p3, fun _ => rfl, p10⟩
        · simp only [List.getElem?_toArray, List.getElem?_cons_zero, List.getElem?_cons_succ, Option.some.injEq] at ho
          subst ho
          simp [Region.binds] at haf
          obtain rfl : x45 = _ := p4 (haf)
          have HPF : Hid _ := (And.intro p0 (And.intro p1 (And.intro p2 (And.intro p3 (And.intro p4 p10)))))
          clear p0 p1 p2 p3 p4 p10
          clear haf
          gi_wp2
          obtain ⟨p0, p1, p2, p3, p4, p10⟩ := HPF.out
          exact ⟨_, _, _, _, _, _, _, _, _, _, _, _, _, _, _, _, _, _, _, _, _, _, _, _, _, _, _, _, _, _, _, _, _, _, _, _, _, _, _, _, _, _, _, _, _, _, _, _, _, _, rfl, HBW.out, p0, p1, p2, p3, fun _ => rfl, p10⟩
        · simp only [List.getElem?_toArray, List.getElem?_cons_zero, List.getElem?_cons_succ, Option.some.injEq] at ho
          subst ho
          simp [Region.binds] at haf
          obtain rfl : x45 = _ := p4 (haf.2)
          have HPF : Hid _ := (And.intro p0 (And.intro p1 (And.intro p2 (And.intro p3 (And.intro p4 p10)))))
          clear p0 p1 p2 p3 p4 p10
          clear haf
          gi_wp2
          obtain ⟨p0, p1, p2, p3, p4, p10⟩ := HPF.out
          exact ⟨_, _, _, _, _, _, _, _, _, _, _, _, _, _, _, _, _, _, _, _, _, _, _, _, _, _, _, _, _, _, _, _, _, _, _, _, _, _, _, _, _, _, _, _, _, _, _, _, _, _, rfl, HBW.out, p0, p1, p2, p3, fun _ => rfl, p10⟩
        · simp only [List.getElem?_toArray, List.getElem?_cons_zero, List.getElem?_cons_succ, Option.some.injEq] at ho
          subst ho
          simp [Region.binds] at haf
          obtain rfl : x45 = _ := p4 (haf.2.2)
          have HPF : Hid _ := (And.intro p0 (And.intro p1 (And.intro p2 (And.intro p3 (And.intro p4 p10)))))
          clear p0 p1 p2 p3 p4 p10
          clear haf
          gi_wp2
          rename_i hKK
          refine ⟨trivial, hKK _ _ ?_⟩
          clear hKK
          gi_wp2
          obtain ⟨p0, p1, p2, p3, p4, p10⟩ := HPF.out
          exact ⟨_, _, _, _, _, _, _, _, _, _, _, _, _, _, _, _, _, _, _, _, _, _, _, _, _, _, _, _, _, _, _, _, _, _, _, _, _, _, _, _, _, _, _, _, _, _, _, _, _, _, rfl, HBW.out, p0, p1, p2, p3, fun _ => rfl, p10⟩
        · simp only [List.getElem?_toArray, List.getElem?_cons_zero, List.getElem?_cons_succ, Option.some.injEq] at ho
          subst ho
          simp [Region.binds] at haf
          obtain rfl : x45 = _ := p4 (haf.1)
          have HPF : Hid _ := (And.intro p0 (And.intro p1 (And.intro p2 (And.intro p3 (And.intro p4 p10)))))
          clear p0 p1 p2 p3 p4 p10
          clear haf
          gi_wp2
          obtain ⟨p0, p1, p2, p3, p4, p10⟩ := HPF.out
          exact ⟨_, _, _, _, _, _, _, _, _, _, _, _, _, _, _, _, _, _, _, _, _, _, _, _, _, _, _, _, _, _, _, _, _, _, _, _, _, _, _, _, _, _, _, _, _, _, _, _, _, _, rfl, HBW.out, p0, p1, p2, p3, fun _ => rfl, fun _ => rfl⟩
      case he =>
        intro l' a wr hI hall
        obtain ⟨y0, y1, y2, y3, y4, y5, y6, y7, y11, y12, y14, y15, y16, y17, y18, y19, y20, y21, y22, y23, y24, y25, y26, y27, y28, y29, y30, y31, y32, y33, y34, y35, y36, y37, y38, y39, y40, y52, y53, x41, x42, x43, x44, x45, x46, x47, x48, x49, x50, x51, rfl, hB, pf⟩ := hI
        obtain ⟨p0, p1, p2, p3, p4, p10⟩ := pf
        obtain rfl : x51 = _ := p10 (hall 10 (by decide))
        clear p0 p1 p2 p3 p4 hall
      --RNEND
        clear hha
        gi_wp2
        exact hend0 wr hB (fun h => hne h.1)

end Go.Proofs.Ytciccbbgamklbaa
