/-
 Chapter 11, the program's side: findingsOf.
-/
import Derived.Test.YtnjbihfceckpfaaG00Stmt
import Derived.Test.YtnjbihfceckpfaaG48FindMore
namespace Go.Proofs.Ytnjbihfceckpfaa
open Go.RowKit
set_option linter.unusedVariables false
set_option linter.unusedSimpArgs false
set_option maxHeartbeats 4000000
set_option maxRecDepth 20000

def rowI (gs : List (List Int)) (a k : Nat) : List Int := gs.getD (12 * a + k) []
def startH (c : Int) : Nat → Int := fun i => if i = 0 then startAns c else 0

theorem field3 (k x y : Int) (w : World) : (Instr.field 92 (.agg #[.int .i64 k, .int .i64 x, .int .i64 y]) 2).run Try.prog w = .ok (.int .i64 y) w := by kernel_rfl
theorem MapAt.clears {w : World} {B n : Nat} {f : Int → Int → Option Int} (h : MapAt w B n f) :
 ∃ w', (∀ ty, (Builtin.clear_ #[71] ty #[.map (some B)]).run Try.prog w = .ok (.tuple #[]) w') ∧ MapAt w' B 0 emptyF ∧ w.grownBy w' (some B) := by
 obtain ⟨w', r, m, g⟩ := h.clear 0
 refine ⟨w', fun ty => ?_, m, g⟩
 obtain ⟨w'', r', _, _⟩ := h.clear ty
 have : (Builtin.clear_ #[71] ty #[.map (some B)]).run Try.prog w = (Builtin.clear_ #[71] 0 #[.map (some B)]).run Try.prog w := rfl
 rw [this, r]

theorem Ent4.kept {G A W : Nat} {w w' : World} {B : Nat} {L : List Int} (h : Ent4 w B L) (k : Kept3 G A W w w') (h1 : B ≠ G) (h2 : B ≠ A) (h3 : B ≠ W) : Ent4 w' B L := h.same (k.block B h.lt h1 h2 h3)

theorem below_none {w w' : World} (h : w.grownBy w' none) : Below w.heap.size w w' := ⟨h.os, h.tape, h.output, h.size, fun k hk => h.block k hk (by simp)⟩
theorem heap_other9 {w : World} {B o b : Nat} {v : Value} (h : b ≠ B) : (w.setCell ⟨B, o, none⟩ v).heap[b]? = w.heap[b]? := heap_setCell_other w ⟨B, o, none⟩ b v h

theorem room_bound : ∀ (L : List Int), (∀ x ∈ L, 0 ≤ x) → room L ≤ 127 * L.length
 | [], _ => Nat.zero_le _
 | x :: L, h => by
  have h0 := h x (by simp)
  have ih := room_bound L (fun y hy => h y (by simp [hy]))
  simp only [room, List.map_cons, List.sum_cons, List.length_cons] at ih ⊢
  omega

/-- What is gathered of those that wait: lf says which are still to come. -/
structure Gth (c : Int) (ps : List (List Stm)) (I : Nat → Nat → List Int) (g : Int → Int → Option Int) (lf : Int → Int → Bool) (L : List Int) : Prop where
 len : L.length = 4
 small : ∀ i, Small (L.getD i 0)
 low : ∀ F, SmallN ps.length F → CloE c ps I F → ∀ i, i < ps.length → Sub (L.getD i 0) (F.getD i 0)
 all : ∀ (a b : Nat) (ha : a < ps.length) (hb : b < ps[a].length) x, g a b = some x → lf a b = false → Sub (img (enterAns c) x) (L.getD ps[a][b].y.toNat 0)

theorem get4 (i : Nat) : ([0, 0, 0, 0] : List Int).getD i 0 = 0 := by
 match i with
 | 0 => rfl
 | 1 => rfl
 | 2 => rfl
 | 3 => rfl
 | n + 4 => rw [getD_out (by simp)]

theorem Gth.begin {c : Int} {ps : List (List Stm)} {I : Nat → Nat → List Int} {g : Int → Int → Option Int} : Gth c ps I g (fun a b => (g a b).isSome) [0, 0, 0, 0] :=
 ⟨rfl, fun i => by rw [get4]; exact small0, fun F _ _ i _ => by rw [get4]; exact sub_zero _, fun a b ha hb x hx hl => by rw [hx] at hl; cases hl⟩

theorem Gth.put {c : Int} (hc : c = 1 ∨ c = 2) {ps : List (List Stm)} (hp : CanP ps) (h4 : ps.length ≤ 4) {I : Nat → Nat → List Int} (hI : GoodI ps I) {H : Nat → Int} {E : List Int} {f g : Int → Int → Option Int} (hm : Fnd c ps I ps.length H E f g) {lf : Int → Int → Bool} {L : List Int} (h : Gth c ps I g lf L) {i k x : Int} (hx : g i k = some x) :
 ∃ (a b : Nat) (ha : a < ps.length) (hb : b < ps[a].length) (y : Nat), i = a ∧ k = b ∧ ps[a][b].k = 8 ∧ ps[a][b].y = y ∧ y < ps.length ∧ Small x ∧ Gth c ps I g (fun i' k' => lf i' k' && !decide (i' = i ∧ k' = k)) (L.set y (lor (L.getD y 0) (img (enterAns c) x))) := by
 obtain ⟨a, b, ha, hb, rfl, rfl, h8, hxs, hx0, hxl⟩ := hm.gin i k x hx
 obtain ⟨y, hy, hyl⟩ := call_y hp ha hb h8
 have hyL : y < L.length := by rw [h.len]; omega
 have hes := enter_smalls hc
 have his := img_small hes x
 refine ⟨a, b, ha, hb, y, rfl, rfl, h8, hy, hyl, hxs, by simp [h.len], fun j => ?_, fun F hF hcl j hj => ?_, fun a' b' ha' hb' x' hx' hl' => ?_⟩
 · rw [getD_setI hyL]; split
   · exact lor_small (h.small y) his
   · exact h.small j
 · rw [getD_setI hyL]; split
   · rename_i e; subst e
     refine lor_sub (h.small j) his (h.low F hF hcl j hj) ?_
     have h1 : Sub (img (enterAns c) x) (goesIn c I E a b) := img_mono hes hxl
     have h2 := EntS.goes hc hI hm.low ha hb h8 hF hcl
     rw [hy] at h2
     exact h1.trans h2
   · exact h.low F hF hcl j hj
 · have up : Sub (L.getD ps[a'][b'].y.toNat 0) ((L.set y (lor (L.getD y 0) (img (enterAns c) x))).getD ps[a'][b'].y.toNat 0) := by
    rw [getD_setI hyL]; split
    · rename_i e; rw [e]; exact sub_lor_l (h.small y) his
    · exact Sub.refl _
   by_cases e : (a' : Int) = a ∧ (b' : Int) = b
   · have ea : a' = a := by omega
     have eb : b' = b := by omega
     subst ea eb
     rw [hx] at hx'
     have := Option.some.inj hx'
     subst this
     rw [hy, Int.toNat_natCast, getD_setI hyL, if_pos rfl]
     exact sub_lor_r (h.small y) his
   · simp only [Bool.and_eq_false_iff, Bool.not_eq_false', decide_eq_true_eq] at hl'
     rcases hl' with hl' | hl'
     · exact (h.all a' b' ha' hb' x' hx' hl').trans up
     · exact absurd hl' e

/-- What findingsOf has between two rounds. -/
structure OS (ps : List (List Stm)) (c : Int) (v : Value) (gs : List (List Int)) (w0 : World) (G A W EB : Nat) (nA nW : Nat) (H : Nat → Int) (E : List Int) (f g : Int → Int → Option Int) (wr : World) : Prop where
 s : FND v gs w0 G A W nA nW E f g wr
 m : Fnd c ps (rowI gs) ps.length H E f g
 e : RelAt wr EB (enterAns c)
 ra : nA + 48 * (2 * room E + min 1 (mapN wr W)) ≤ 60000
 rw : nW ≤ 48

theorem findingsWith (ps : List (List Stm)) (c : Int) (T : List (List Int)) (v : Value) (w : World) (hc : c = 1 ∨ c = 2) (hp : CanP ps) (h1 : 1 ≤ ps.length) (h4 : ps.length ≤ 4) (hT7 : Rows7 4 T) (hT : IsTables c ps T) (hv : ReadsP w v ps) :
 Calls Try.prog 77 #[.agg #[v], .int .i64 c, tabR T] w fun e w' => ∃ gs G A W nA nW E f g, e = .returned (.pointer (some ⟨G, 0, none⟩)) ∧ Rows7 48 gs ∧ InI c ps (rowI gs) ∧ IsEnt c ps (rowI gs) E ∧ E.length = 4 ∧ FND v gs w G A W nA nW E f g w' ∧ Apart3 w G A W ∧
  (∀ i (hi : i < ps.length) k, k < ps[i].length → (f i k).getD 0 = img (rowI gs i k) (E.getD i 0)) ∧ (∀ i k : Int, f i k ≠ none → ∃ (a b : Nat) (ha : a < ps.length), b < ps[a].length ∧ i = a ∧ k = b) := by
 have h12 : ∀ a (ha : a < ps.length), ps[a].length ≤ 12 := fun a ha => (procOk_parts (hp a ha).1).2.1
 obtain ⟨ts, hts⟩ : ∃ ts, ints T.flatten = ts := ⟨_, rfl⟩
 have b0 : Below w.heap.size w ((w.alloc (.cells #[v] 30)).alloc (.cells ts.toArray 88)) := by go_grown
 have hv0 : ReadsP ((w.alloc (.cells #[v] 30)).alloc (.cells ts.toArray 88)) v ps := readsP_below hv b0
 have hP0 : ((w.alloc (.cells #[v] 30)).alloc (.cells ts.toArray 88)).heap[w.heap.size]? = some (.cells #[v] 30 (0, 0)) := by
  rw [old_block (by simp)]; exact heap_alloc_new w _
 have hs0 : ((w.alloc (.cells #[v] 30)).alloc (.cells ts.toArray 88)).heap.size = w.heap.size + 1 + 1 := by simp
 have HTB : Hid (TabR ((w.alloc (.cells #[v] 30)).alloc (.cells ts.toArray 88)) (w.heap.size + 1) 88 T) := by
  show TabR _ _ _ _
  unfold TabR
  rw [hts]
  have := heap_alloc_new (w.alloc (.cells #[v] 30)) (.cells ts.toArray 88)
  simpa using this
 have hst := start_small hc
 have hes := enter_smalls hc
 have he7 : (enterAns c).length = 7 := hes.1
 have h07 : (List.replicate 7 (0 : Int)).length = 7 := rfl
 have hnf := noFindings ps c T v ((w.alloc (.cells #[v] 30)).alloc (.cells ts.toArray 88)) hc hp h4 hT7 hT hv0
 have HR7 : Hid (Rows7 4 T) := hT7
 have hta : tabR T = .agg ts.toArray := by rw [← hts]; rfl
 rw [hta]
 clear hT hT7 hts hta
 go_enter Try.func77, Try.ntmps77
 go_wp2_with (first
  | ((with_reducible refine wpList_loadTabL (x := .tmp 5) isTab4 (w.heap.size + 1) T ?hx HR7.out HTB.out ?_); (case hx => rfl)))
 generalize hW0 : (w.alloc (.cells #[v] 30)).alloc (.cells ts.toArray 88) = w0 at *
 go_at_call 111
 refine hnf.mono ?_
 rintro e w1 ⟨gs, G, A, W, rfl, hgs, hI, hF, hap⟩
 have HIN : Hid (InI c ps (rowI gs)) := hI
 have HI : Hid (GoodI ps (rowI gs)) := InI.good hI
 have HF1 : Hid _ := hF
 clear hnf hI hF
 go_wp2_with (first
  | (go_at_call 89; refine (implStart c _).mono ?_; rintro e w2 ⟨rfl, b2⟩; have HF2 : Hid _ := HF1.out.below b2; clear b2)
  | (go_at_call 112; refine (begin_ ps (rowI gs) v gs w0 G A W 0 0 [0, 0, 0, 0] emptyF emptyF 0 (startAns c) _ hp h4 (by omega) (h12 0 (by omega)) HI.out hgs rfl (fun k _ => rfl) small0 hst (fun k _ => small0) (by omega) (by omega) hv0 hap HF2.out).mono ?_; rintro e w3 ⟨⟨u3, rfl⟩, hS3, hK3⟩; refine stop_of ?_))
 unfold Stop
 have hM3 := ((Fnd.zero hc HI.out).step hc hp h4 HI.out (by omega : 0 < ps.length)).first h1 (fun i hi => by simp; omega)
 obtain ⟨E1, f1, g1, hS3', hM3'⟩ : ∃ E f g, FND v gs w0 G A W 12 12 E f g w3 ∧ Fnd c ps (rowI gs) ps.length (startH c) E f g := ⟨_, _, _, hS3, hM3⟩
 have HF3 : Hid _ := hS3'
 have HM3 : Hid _ := hM3'
 have hgsz : w0.heap.size ≤ w3.heap.size := hS3'.bl.size
 have zG := hS3'.fb.lt
 have zA := hS3'.a.lt
 have zW := hS3'.w.lt
 clear hS3 hM3 hS3' hM3' hK3 HF1 HF2
 go_wp2_with fail
 go_at_call 113
 refine (implEnter c _).mono ?_
 rintro e w4 ⟨a4, rfl, o4, b4⟩
 rw [hes.1] at o4
 obtain ⟨g4, cp4, rfl, hr4, hg4, _⟩ := own_range o4
 have hr4' : ∀ o, (w4.alloc o).rangeAt g4 0 (ints (enterAns c)) := fun o => World.rangeAt_alloc hr4 o
 have HF4 : Hid _ := HF3.out.below b4
 have b5 : Below w4.heap.size w4 (w4.alloc (.cells #[.int .i64 0, .int .i64 0, .int .i64 0, .int .i64 0, .int .i64 0, .int .i64 0, .int .i64 0] 64)) := by go_grown
 have HF5 : Hid _ := HF4.out.below b5
 have hz4 := b4.size
 have HE5 : Hid (RelAt (w4.alloc (.cells #[.int .i64 0, .int .i64 0, .int .i64 0, .int .i64 0, .int .i64 0, .int .i64 0, .int .i64 0] 64)) w4.heap.size (List.replicate 7 0)) := by
  show RelAt _ _ _
  rw [zeros7]; exact heap_alloc_new w4 _
 clear o4 b4 b5 HF3 HF4
 go_wp2_with (first
  | ((with_reducible refine wpList_loadRelL (x := .tmp 23) g4 0 (enterAns c) ?hx he7 ?hc ?_); (case hx => rfl); (case hc => first | exact hr4 | exact hr4' _))
  | refine wpList_arrayAt rfl (.tmp 22) rfl g4 0 cp4 rfl ?_
  | ((with_reducible refine wpList_storeRelL (x := .tmp 8) (y := .tmp 24) w4.heap.size (List.replicate 7 0) (enterAns c) ?hx ?hy he7 h07 HE5.out ?_); (case hx => rfl); (case hy => rfl); intro w6 T6 g6; have HE6 : Hid (RelAt w6 w4.heap.size (enterAns c)) := T6; have G6 : Hid _ := g6; clear T6 g6; refine stop_of ?_))
 unfold Stop
 have HF6 : Hid _ := HF5.out.other G6.out (by omega) (by omega) (by omega) (by omega)
 have zE6 : w4.heap.size < w6.heap.size := by have := G6.out.size; simp at this; omega
 obtain ⟨EB, hEB⟩ : ∃ EB, w4.heap.size = EB := ⟨_, rfl⟩
 rw [hEB] at HE6 zE6 hz4
 have hGE : G < EB := by omega
 have hAE : A < EB := by omega
 have hWE : W < EB := by omega
 rw [hEB]
 clear HF5 HE5 G6 hr4 hr4' hg4
 have hroom : room E1 ≤ 508 := by
  have := room_bound E1 (fun x hx => by
   obtain ⟨j, hj, rfl⟩ := List.getElem_of_mem hx
   have := (HM3.out.small j).1
   simpa [List.getD, hj] using this)
  rw [HM3.out.len] at this
  exact this
 have S0 : Hid (OS ps c v gs w0 G A W EB 12 12 (startH c) E1 f1 g1 w6) := ⟨HF6.out, HM3.out, HE6.out, by have : min 1 (mapN w6 W) ≤ 1 := Nat.min_le_left _ _; omega, by omega⟩
 clear HM3 HE6 HF6
 go_wp2_with fail
 go_loopw [25] (fun _ wr => ∃ nA nW H E f g, OS ps c v gs w0 G A W EB nA nW H E f g wr) (fun _ wr => 2 * room (entsOf wr G) + min 1 (mapN wr W))
 case atStart => exact ⟨_, _, _, _, _, _, S0.out⟩
 case round =>
  obtain ⟨nA, nW, H, E, f, g, S⟩ := hrel
  obtain ⟨wo, rfl⟩ : ∃ wo, wo = wr := ⟨wr, rfl⟩
  have HS : Hid _ := S
  clear S0 S
  have hmw := HS.out.s.fb.mW hgs HS.out.m.len
  obtain ⟨hlen, hemp, hfull⟩ := HS.out.s.w.count
  by_cases hz : mapN wo W = 0
  · rw [hz] at hlen
    go_wp2_with fail
    go_ret
    have hbl := HS.out.s.bl
    refine ⟨gs, G, A, W, nA, nW, E, f, g, rfl, hgs, HIN.out, HS.out.m.done hc hp h1 (fun i k hi hk => hemp hz i k (WalkArith.wf_i64 (by omega)) (WalkArith.wf_i64 (by omega))) h12, HS.out.m.len, ⟨HS.out.s.fb, HS.out.s.a, HS.out.s.w, b0.trans (hbl.mono (by omega))⟩, ⟨?_, ?_, ?_, hap.ga, hap.gw, hap.aw⟩, HS.out.m.ahead, HS.out.m.out⟩
    · have := hap.g; omega
    · have := hap.a; omega
    · have := hap.w; omega
  · have hz' : (0 : Int) < (mapN wo W : Int) := by omega
    have bg : Below wo.heap.size wo (wo.alloc (.cells #[.int .i64 0, .int .i64 0, .int .i64 0, .int .i64 0] 69)) := by go_grown
    have sg : (wo.alloc (.cells #[.int .i64 0, .int .i64 0, .int .i64 0, .int .i64 0] 69)).heap.size = wo.heap.size + 1 := by simp
    have HX0 : Hid (Ent4 (wo.alloc (.cells #[.int .i64 0, .int .i64 0, .int .i64 0, .int .i64 0] 69)) wo.heap.size [0, 0, 0, 0]) := heap_alloc_new wo _
    have HSg : Hid _ := HS.out.s.below bg
    have HEg : Hid (RelAt (wo.alloc (.cells #[.int .i64 0, .int .i64 0, .int .i64 0, .int .i64 0] 69)) EB (enterAns c)) := (bg.block EB (Array.getElem?_eq_some_iff.1 HS.out.e).1).trans HS.out.e
    obtain ⟨w7, cnt, hrr, hRan, hg7, hs7⟩ := HSg.out.w.range
    rw [sg] at hrr hRan hs7
    have hmw' := HSg.out.fb.mW hgs HS.out.m.len
    have hEBw := (Array.getElem?_eq_some_iff.1 HS.out.e).1
    generalize hmm9 : mapN wo W = mm at *
    have hz9 : 0 < mm := by omega
    go_wp2_with fail
    have b7 := below_none hg7
    have SI : Hid (RanM w7 W (wo.heap.size + 1) nW g (fun i k => (g i k).isSome) cnt ∧ Ent4 w7 wo.heap.size [0, 0, 0, 0] ∧ RelAt w7 EB (enterAns c) ∧ FND v gs w0 G A W nA nW E f g w7) := ⟨hRan, HX0.out.below b7, (b7.block EB (Array.getElem?_eq_some_iff.1 HEg.out).1).trans HEg.out, HSg.out.below b7⟩
    clear hRan hrr hg7 b7 HX0 HSg HEg bg hmw' hmw hlen hs7 sg
    go_loopw [36] (fun _ wk => ∃ lf cnt L, RanM wk W (wo.heap.size + 1) nW g lf cnt ∧ Gth c ps (rowI gs) g lf L ∧ Ent4 wk wo.heap.size L ∧ RelAt wk EB (enterAns c) ∧ FND v gs w0 G A W nA nW E f g wk) (fun _ wk => wk.rangeLeft W (wo.heap.size + 1))
    case atStart => exact ⟨_, _, _, SI.out.1, Gth.begin, SI.out.2.1, SI.out.2.2.1, SI.out.2.2.2⟩
    case round =>
     obtain ⟨lf, cnt, L, hRan, hG, hX, hE, hF⟩ := hrel
     have HR : Hid (RanM _ W (wo.heap.size + 1) nW g lf cnt) := hRan
     have HG : Hid _ := hG
     have HX : Hid (Ent4 _ wo.heap.size L) := hX
     have HE : Hid (RelAt _ EB (enterAns c)) := hE
     have HF : Hid _ := hF
     clear SI hRan hG hX hE hF
     go_wp2_with (first
      | ((with_reducible refine wpList_nextM (x := .tmp 35) W (wo.heap.size + 1) nW g lf cnt ?hx HR.out (fun h0 => stop_of ?hD) (fun i k x w8 cnt8 hwi hwk hwx hli hgi hR8 hlt8 hg8 hs8 hen8 => stop_of ?hM)); (case hx => rfl)))
     case hM =>
      unfold Stop
      obtain ⟨a, b, ha, hb, y, rfl, rfl, h8, hy, hyl, hxs, hG8⟩ := HG.out.put hc hp h4 HI.out HS.out.m hgi
      have zr := HR.out.lt
      have zr8 : wo.heap.size + 1 < w8.heap.size := by omega
      have HF8 : Hid _ := HF.out.other hg8 (by omega) (by omega) (by omega) (by omega)
      have HX8 : Hid (Ent4 w8 wo.heap.size L) := Ent4.same HX.out (hg8.block _ (Ent4.lt HX.out) (fun e => by have := Option.some.inj e; omega))
      have HE8 : Hid (RelAt w8 EB (enterAns c)) := (hg8.block _ (Array.getElem?_eq_some_iff.1 HE.out).1 (fun e => by have := Option.some.inj e; omega)).trans HE.out
      have hb9 : Below w8.heap.size w8 (w8.alloc (.cells #[.int .i64 (a : Int), .int .i64 (b : Int)] 56)) := by go_grown
      have HF9 : Hid _ := HF8.out.below hb9
      have HX9 : Hid (Ent4 (w8.alloc (.cells #[.int .i64 (a : Int), .int .i64 (b : Int)] 56)) wo.heap.size L) := Ent4.below HX8.out hb9
      have HE9 : Hid (RelAt (w8.alloc (.cells #[.int .i64 (a : Int), .int .i64 (b : Int)] 56)) EB (enterAns c)) := (hb9.block _ (Array.getElem?_eq_some_iff.1 HE8.out).1).trans HE8.out
      have HR9 : Hid (RanM (w8.alloc (.cells #[.int .i64 (a : Int), .int .i64 (b : Int)] 56)) W (wo.heap.size + 1) nW g (fun i' k' => lf i' k' && !decide (i' = (a : Int) ∧ k' = (b : Int))) cnt8) := hR8.below hb9
      obtain ⟨d0, d1⟩ := blk2 (heap_alloc_new w8 (.cells #[.int .i64 (a : Int), .int .i64 (b : Int)] 56))
      have HG9 : Hid _ := hG8
      clear hs8 zr hg8 hR8 hb9 HF8 HX8 HE8 HE HX HF hG8
      go_wp2_with fail
      have hPB9 : w8.heap.size < (w8.alloc (.cells #[.int .i64 (a : Int), .int .i64 (b : Int)] 56)).heap.size := by simp
      generalize w8.alloc (.cells #[.int .i64 (a : Int), .int .i64 (b : Int)] 56) = W9 at *
      have hGB9 := Ent4.lt HX9.out
      have hEB9 : EB < W9.heap.size := (Array.getElem?_eq_some_iff.1 HE9.out).1
      have hy4 : y < 4 := by omega
      have hy4' : (y : Int) < 4 := by omega
      obtain ⟨ly, hly⟩ : ∃ ly, L.getD y 0 = ly := ⟨_, rfl⟩
      have c9 := Ent4.cell HX9.out (j := y) (by rw [HG.out.len]; exact hy4)
      rw [hly] at c9
      obtain ⟨nx, hnx⟩ : ∃ nx, lor ly (img (enterAns c) x) = nx := ⟨_, rfl⟩
      have hnx' : bits .or .i64 ly (img (enterAns c) x) = nx := hnx
      rw [hly, hnx] at HG9
      have HST : Hid (∀ W', Below W9.heap.size W9 W' → Calls Try.prog 114 #[.pointer (some ⟨G, 0, none⟩), .agg #[.int .i64 (a : Int), .int .i64 (b : Int)]] W' fun e w' => e = .returned (.agg #[.int .i64 ps[a][b].k, .int .i64 ps[a][b].x, .int .i64 (y : Int)]) ∧ Below W'.heap.size W' w') := by
       intro W' hW'
       have := stmtAt ps v gs E G A W W' (HF9.out.fb.below hW') (readsP_below hv0 ((HF9.out.below hW').bl)) a b ha hb h4 (h12 a ha)
       unfold plV at this
       rw [hy] at this
       exact this
      refine wp_region_held_drew (S := fun w' => w'.cell? ⟨w8.heap.size, 0, none⟩ = some (.int .i64 (a : Int)) ∧ w'.cell? ⟨w8.heap.size, 1, none⟩ = some (.int .i64 (b : Int)) ∧ RelAt w' EB (enterAns c)) (by kernel_rfl) ⟨d0, d1, HE9.out⟩ (fun hHeld => ?_)
      refine wpAnyH_take (i := 0) (oi := ?oif0) (v := .pointer (some ⟨G, 0, none⟩)) ?hif0 (by kernel_rfl) (by kernel_rfl) (by kernel_rfl) ?hqf0 ?hyf0 hHeld ?hrf0
      case hif0 =>
       simp only [gA, gB, gC]
       rfl
      case hqf0 => exact fun _ _ _ h => h
      case hyf0 => exact Or.inl ⟨by kernel_rfl, fun w hSw => by go_simp⟩
      try simp only [Act.put, gD, gE, gF]
      refine wpAnyH_take (i := 1) (oi := ?oif1) (v := .agg #[.int .i64 (a : Int), .int .i64 (b : Int)]) ?hif1 (by kernel_rfl) (by kernel_rfl) (by kernel_rfl) ?hqf1 ?hyf1 hHeld ?hrf1
      case hif1 =>
       simp only [gA, gB, gC]
       rfl
      case hqf1 => exact fun _ _ _ h => h
      case hyf1 => exact Or.inl ⟨by kernel_rfl, fun w hSw => by obtain ⟨s1, s2, s3⟩ := hSw; go_simp⟩
      try simp only [Act.put, gD, gE, gF]
      refine wpAnyH_take (i := 6) (oi := ?oif6) (v := relV (enterAns c)) ?hif6 (by kernel_rfl) (by kernel_rfl) (by kernel_rfl) ?hqf6 ?hyf6 hHeld ?hrf6
      case hif6 =>
       simp only [gA, gB, gC]
       rfl
      case hqf6 => exact fun _ _ _ h => h
      case hyf6 => exact yieldsIf_load_mid (by kernel_rfl) 64 (.tmp 8) rfl EB 0 rfl (ints (enterAns c)) _ (fun w hSw => RelAt.range hSw.2.2) relUnd rfl (by rw [relInfo]; simp [ints, he7])
      try simp only [Act.put, gD, gE, gF]
      refine wpAnyH_take (i := 7) (oi := ?oif7) (v := .int .i64 x) ?hif7 (by kernel_rfl) (by kernel_rfl) (by kernel_rfl) ?hqf7 ?hyf7 hHeld ?hrf7
      case hif7 =>
       simp only [gA, gB, gC]
       rfl
      case hqf7 => exact fun _ _ _ h => h
      case hyf7 => exact Or.inl ⟨by kernel_rfl, fun w hSw => by go_simp⟩
      try simp only [Act.put, gD, gE, gF]
      refine wpAnyH_ready (rs := [2]) (by kernel_rfl) (by simp) ?_
      refine (AllReadyH.cons (o := ?oof2) ?hof2 (fun K hK => ?hkf2) AllReadyH.nil)
      case hof2 =>
       simp only [gA, gB, gC]
       rfl
      case hkf2 =>
       go_simp
       go_at_call 114
       refine (HST.out W9.drew (Below.drew (Below.refl _ _))).mono ?_
       rintro e w10 ⟨rfl, b10⟩
       have B10 : Hid (Below W9.heap.size W9 w10) := (Below.drew (Below.refl W9.heap.size W9)).trans b10
       have c10 : w10.cell? ⟨wo.heap.size, y, none⟩ = some (.int .i64 ly) := (B10.out.cell hGB9).trans c9
       clear b10
       try go_wp2_with fail
       refine hK.out _ _ ⟨(B10.out.cell hPB9).trans d0, (B10.out.cell hPB9).trans d1, (B10.out.block EB hEB9).trans HE9.out⟩ (fun hHeld => ?_)
       clear hK K
       try simp only [Act.put, gD, gE, gF]
       refine wpAnyH_take (i := 3) (oi := ?oif3) (v := .int .i64 (y : Int)) ?hif3 (by kernel_rfl) (by kernel_rfl) (by kernel_rfl) ?hqf3 ?hyf3 hHeld ?hrf3
       case hif3 =>
        simp only [gA, gB, gC]
        rfl
       case hqf3 => exact fun _ _ _ h => h
       case hyf3 => exact Or.inl ⟨by kernel_rfl, fun w hSw => by have hfd := fun k x => field3 k x (y : Int) w; go_simp⟩
       try simp only [Act.put, gD, gE, gF]
       refine wpAnyH_take (i := 4) (oi := ?oif4) (v := .pointer (some ⟨wo.heap.size, y, none⟩)) ?hif4 (by kernel_rfl) (by kernel_rfl) (by kernel_rfl) ?hqf4 ?hyf4 hHeld ?hrf4
       case hif4 =>
        simp only [gA, gB, gC]
        rfl
       case hqf4 => exact fun _ _ _ h => h
       case hyf4 => exact Or.inl ⟨by kernel_rfl, fun w hSw => by go_simp⟩
       try simp only [Act.put, gD, gE, gF]
       refine wpAnyH_ready (rs := [5, 8]) (by kernel_rfl) (by simp) ?_
       refine (AllReadyH.cons (o := ?oof5) ?hof5 (fun K hK => ?hkf5) (AllReadyH.cons (o := ?oof8) ?hof8 (fun K hK => ?hkf8) AllReadyH.nil))
       case hof5 =>
        simp only [gA, gB, gC]
        rfl
       case hof8 =>
        simp only [gA, gB, gC]
        rfl
       case hkf5 =>
        go_simp
        try go_wp2_with fail
        refine hK.out _ _ hHeld (fun hHeld => ?_)
        clear hK K
        try simp only [Act.put, gD, gE, gF]
        refine wpAnyH_ready (rs := [8]) (by kernel_rfl) (by simp) ?_
        refine (AllReadyH.cons (o := ?oofa8) ?hofa8 (fun K hK => ?hkfa8) AllReadyH.nil)
        case hofa8 =>
         simp only [gA, gB, gC]
         rfl
        case hkfa8 =>
         go_simp
         go_at_call 115
         refine (relImage (enterAns c) x w10 hes hxs).mono ?_
         rintro e w11 ⟨rfl, b11⟩
         have B11 : Hid (Below W9.heap.size W9 w11) := B10.out.trans (b11.mono B10.out.size)
         have c11 : w11.cell? ⟨wo.heap.size, y, none⟩ = some (.int .i64 ly) := (B11.out.cell hGB9).trans c9
         have f11 : w11.frozen? ⟨wo.heap.size, y, none⟩ = false := (Ent4.below HX9.out B11.out).frozen y
         clear b11
         try go_wp2_with fail
         refine hK.out _ _ ⟨(B11.out.cell hPB9).trans d0, (B11.out.cell hPB9).trans d1, (B11.out.block EB hEB9).trans HE9.out⟩ (fun hHeld => ?_)
         clear hK K
         try simp only [Act.put, gD, gE, gF]
         refine wpAnyH_take (i := 9) (oi := ?oifa9) (v := .int .i64 nx) ?hifa9 (by kernel_rfl) (by kernel_rfl) (by kernel_rfl) ?hqfa9 ?hyfa9 hHeld ?hrfa9
         case hifa9 =>
          simp only [gA, gB, gC]
          rfl
         case hqfa9 => exact fun _ _ _ h => h
         case hyfa9 => exact Or.inl ⟨by kernel_rfl, fun w hSw => by go_simp⟩
         try simp only [Act.put, gD, gE, gF]
         refine wpAnyH_take (i := 10) (oi := ?oifa10) (v := .pointer (some ⟨wo.heap.size, y, none⟩)) ?hifa10 (by kernel_rfl) (by kernel_rfl) (by kernel_rfl) ?hqfa10 ?hyfa10 hHeld ?hrfa10
         case hifa10 =>
          simp only [gA, gB, gC]
          rfl
         case hqfa10 => exact fun _ _ _ h => h
         case hyfa10 => exact Or.inl ⟨by kernel_rfl, fun w hSw => by go_simp⟩
         try simp only [Act.put, gD, gE, gF]
         refine wpAnyH_ready (rs := [11]) (by kernel_rfl) (by simp) ?_
         refine (AllReadyH.cons (o := ?oofa11) ?hofa11 (fun K hK => ?hkfa11) AllReadyH.nil)
         case hofa11 =>
          simp only [gA, gB, gC]
          rfl
         case hkfa11 =>
          have HS11 : Hid ((w11.setCell ⟨wo.heap.size, y, none⟩ (.int .i64 nx)).cell? ⟨w8.heap.size, 0, none⟩ = some (.int .i64 (a : Int)) ∧ (w11.setCell ⟨wo.heap.size, y, none⟩ (.int .i64 nx)).cell? ⟨w8.heap.size, 1, none⟩ = some (.int .i64 (b : Int)) ∧ RelAt (w11.setCell ⟨wo.heap.size, y, none⟩ (.int .i64 nx)) EB (enterAns c)) := ⟨(cell_grown (grown_setCell7 w11 wo.heap.size y (.int .i64 nx)) (by omega) (Nat.lt_of_lt_of_le hPB9 B11.out.size) 0).trans ((B11.out.cell hPB9).trans d0), (cell_grown (grown_setCell7 w11 wo.heap.size y (.int .i64 nx)) (by omega) (Nat.lt_of_lt_of_le hPB9 B11.out.size) 1).trans ((B11.out.cell hPB9).trans d1), (heap_other9 (by omega)).trans ((B11.out.block EB hEB9).trans HE9.out)⟩
          go_simp
          try go_wp2_with fail
          refine hK.out _ _ HS11.out (fun hHeld => ?_)
          clear hK K
          try simp only [Act.put, gD, gE, gF]
          refine wpAnyH_done (by kernel_rfl) ?_ _
          go_wp2_with fail
          refine ⟨⟨_, cnt8, _, ((HR9.out.below B11.out).kept (grown_setCell7 w11 wo.heap.size y (.int .i64 nx)) (by simp; omega) (by simp)), HG9.out, Ent4.set (Ent4.below HX9.out B11.out) y nx, (heap_other9 (by omega)).trans ((B11.out.block EB hEB9).trans HE9.out), (HF9.out.below B11.out).other (grown_setCell7 w11 wo.heap.size y (.int .i64 nx)) (by omega) (by omega) (by omega) (by omega)⟩, ?_⟩
          rw [((HR9.out.below B11.out).kept (grown_setCell7 w11 wo.heap.size y (.int .i64 nx)) (by simp; omega) (by simp)).left_eq, HR.out.left_eq]; exact hlt8
       case hkf8 =>
        go_simp
        go_at_call 115
        refine (relImage (enterAns c) x w10 hes hxs).mono ?_
        rintro e w11 ⟨rfl, b11⟩
        have B11 : Hid (Below W9.heap.size W9 w11) := B10.out.trans (b11.mono B10.out.size)
        have c11 : w11.cell? ⟨wo.heap.size, y, none⟩ = some (.int .i64 ly) := (B11.out.cell hGB9).trans c9
        have f11 : w11.frozen? ⟨wo.heap.size, y, none⟩ = false := (Ent4.below HX9.out B11.out).frozen y
        clear b11
        try go_wp2_with fail
        refine hK.out _ _ ⟨(B11.out.cell hPB9).trans d0, (B11.out.cell hPB9).trans d1, (B11.out.block EB hEB9).trans HE9.out⟩ (fun hHeld => ?_)
        clear hK K
        try simp only [Act.put, gD, gE, gF]
        refine wpAnyH_ready (rs := [5]) (by kernel_rfl) (by simp) ?_
        refine (AllReadyH.cons (o := ?oofb5) ?hofb5 (fun K hK => ?hkfb5) AllReadyH.nil)
        case hofb5 =>
         simp only [gA, gB, gC]
         rfl
        case hkfb5 =>
         go_simp
         try go_wp2_with fail
         refine hK.out _ _ hHeld (fun hHeld => ?_)
         clear hK K
         try simp only [Act.put, gD, gE, gF]
         refine wpAnyH_take (i := 9) (oi := ?oifb9) (v := .int .i64 nx) ?hifb9 (by kernel_rfl) (by kernel_rfl) (by kernel_rfl) ?hqfb9 ?hyfb9 hHeld ?hrfb9
         case hifb9 =>
          simp only [gA, gB, gC]
          rfl
         case hqfb9 => exact fun _ _ _ h => h
         case hyfb9 => exact Or.inl ⟨by kernel_rfl, fun w hSw => by go_simp⟩
         try simp only [Act.put, gD, gE, gF]
         refine wpAnyH_take (i := 10) (oi := ?oifb10) (v := .pointer (some ⟨wo.heap.size, y, none⟩)) ?hifb10 (by kernel_rfl) (by kernel_rfl) (by kernel_rfl) ?hqfb10 ?hyfb10 hHeld ?hrfb10
         case hifb10 =>
          simp only [gA, gB, gC]
          rfl
         case hqfb10 => exact fun _ _ _ h => h
         case hyfb10 => exact Or.inl ⟨by kernel_rfl, fun w hSw => by go_simp⟩
         try simp only [Act.put, gD, gE, gF]
         refine wpAnyH_ready (rs := [11]) (by kernel_rfl) (by simp) ?_
         refine (AllReadyH.cons (o := ?oofb11) ?hofb11 (fun K hK => ?hkfb11) AllReadyH.nil)
         case hofb11 =>
          simp only [gA, gB, gC]
          rfl
         case hkfb11 =>
          have HS11 : Hid ((w11.setCell ⟨wo.heap.size, y, none⟩ (.int .i64 nx)).cell? ⟨w8.heap.size, 0, none⟩ = some (.int .i64 (a : Int)) ∧ (w11.setCell ⟨wo.heap.size, y, none⟩ (.int .i64 nx)).cell? ⟨w8.heap.size, 1, none⟩ = some (.int .i64 (b : Int)) ∧ RelAt (w11.setCell ⟨wo.heap.size, y, none⟩ (.int .i64 nx)) EB (enterAns c)) := ⟨(cell_grown (grown_setCell7 w11 wo.heap.size y (.int .i64 nx)) (by omega) (Nat.lt_of_lt_of_le hPB9 B11.out.size) 0).trans ((B11.out.cell hPB9).trans d0), (cell_grown (grown_setCell7 w11 wo.heap.size y (.int .i64 nx)) (by omega) (Nat.lt_of_lt_of_le hPB9 B11.out.size) 1).trans ((B11.out.cell hPB9).trans d1), (heap_other9 (by omega)).trans ((B11.out.block EB hEB9).trans HE9.out)⟩
          go_simp
          try go_wp2_with fail
          refine hK.out _ _ HS11.out (fun hHeld => ?_)
          clear hK K
          try simp only [Act.put, gD, gE, gF]
          refine wpAnyH_done (by kernel_rfl) ?_ _
          go_wp2_with fail
          refine ⟨⟨_, cnt8, _, ((HR9.out.below B11.out).kept (grown_setCell7 w11 wo.heap.size y (.int .i64 nx)) (by simp; omega) (by simp)), HG9.out, Ent4.set (Ent4.below HX9.out B11.out) y nx, (heap_other9 (by omega)).trans ((B11.out.block EB hEB9).trans HE9.out), (HF9.out.below B11.out).other (grown_setCell7 w11 wo.heap.size y (.int .i64 nx)) (by omega) (by omega) (by omega) (by omega)⟩, ?_⟩
          rw [((HR9.out.below B11.out).kept (grown_setCell7 w11 wo.heap.size y (.int .i64 nx)) (by simp; omega) (by simp)).left_eq, HR.out.left_eq]; exact hlt8
     case hD =>
      unfold Stop
      obtain ⟨ao, cap, rfl, _⟩ := id hv0
      have hm9 : Fnd c ps (rowI gs) 0 (fun y => L.getD y 0) E f noneF := HS.out.m.gather hc hp h1 HG.out.small HG.out.low (fun a b ha hb x hx => HG.out.all a b ha hb x hx (h0 a b (WalkArith.wf_i64 (by omega)) (WalkArith.wf_i64 (by have := h12 a ha; omega))))
      obtain ⟨w9, hcr, hcm, hcg⟩ := HF.out.w.clears
      have hmw := HF.out.fb.mW hgs HS.out.m.len
      have HF9 : Hid _ := HF.out.turnW hap hcg hcm
      have HX9 : Hid (Ent4 w9 wo.heap.size L) := Ent4.same HX.out (hcg.block _ (Ent4.lt HX.out) (fun e => by have := Option.some.inj e; omega))
      have HE9 : Hid (RelAt w9 EB (enterAns c)) := (hcg.block _ (Array.getElem?_eq_some_iff.1 HE.out).1 (fun e => by have := Option.some.inj e; omega)).trans HE.out
      have HM9 : Hid _ := hm9
      have hP9 : w9.cell? ⟨w.heap.size, 0, none⟩ = some (.slice ao ps.length cap) := (one_cell ((HF9.out.bl.block w.heap.size (by omega)).trans hP0)).1
      have hGs := HG.out.small
      have hGl := HG.out.len
      clear hm9 hcm hcg HE HX HF HR HG h0
      go_wp2_with fail
      have SJ : Hid (Rnd E E emptyF) := .inl ⟨rfl, fun _ _ => rfl⟩
      go_loopw [59] (fun kv wk => ∃ (i : Nat) (nA' nW' : Nat) (E' : List Int) (f' g' : Int → Int → Option Int), i ≤ ps.length ∧ kv = .int .i64 i ∧ FND (.slice ao ps.length cap) gs w0 G A W nA' nW' E' f' g' wk ∧ Fnd c ps (rowI gs) i (fun y => L.getD y 0) E' f' g' ∧ Rnd E E' g' ∧ Ent4 wk wo.heap.size L ∧ RelAt wk EB (enterAns c) ∧ nA' ≤ nA + 12 * i ∧ nW' ≤ 12 * i) (fun kv _ => ps.length - (intOf kv).toNat)
      case atStart => exact ⟨0, nA, 0, E, f, emptyF, Nat.zero_le _, rfl, HF9.out, HM9.out, SJ.out, HX9.out, HE9.out, by omega, by omega⟩
      case round =>
       obtain ⟨i, nA', nW', E', f', g', hi, rfl, hF, hM, hR, hX, hE, hnA, hnW⟩ := hrel
       have HF : Hid _ := hF
       have HM : Hid _ := hM
       have HRn : Hid (Rnd E E' g') := hR
       have HX : Hid (Ent4 _ wo.heap.size L) := hX
       have HE : Hid (RelAt _ EB (enterAns c)) := hE
       have hra := HS.out.ra
       clear HF9 HM9 SJ HX9 HE9 hcr hmw hP9 hF hM hR hX hE
       by_cases hlt : i < ps.length
       · have hlt' : (i : Int) < (ps.length : Int) := by omega
         have hi4' : (i : Int) < 4 := by omega
         obtain ⟨li, hli⟩ : ∃ li, L.getD i 0 = li := ⟨_, rfl⟩
         have cL := Ent4.cell HX.out (j := i) (by rw [hGl]; omega)
         rw [hli] at cL
         have hbg := fun W' (hW' : Below wr.heap.size wr W') => begin_ ps (rowI gs) (.slice ao ps.length cap) gs w0 G A W nA' nW' E' f' g' i li W' hp h4 hlt (h12 i hlt) HI.out hgs HM.out.len (fun k _ => rfl) (HM.out.small i) (hli ▸ hGs i) (fun k hk => by rw [HM.out.ahead i hlt k hk]; exact img_small (HI.out i hlt k hk) _) (by omega) (by omega) hv0 hap (HF.out.below hW')
         go_wp2_with fail
         go_at_call 112
         refine (hbg _ (Below.refl _ _)).mono ?_
         rintro e w5 ⟨⟨u5, rfl⟩, hS5, hK5⟩
         have hF5 := HM.out.step hc hp h4 HI.out hlt
         have hR5 := Rnd.step HI.out h4 HM.out hlt HRn.out
         simp only [hli] at hF5 hR5
         have HS5 : Hid _ := hS5
         have HM5 : Hid _ := hF5
         have HR5 : Hid (Rnd E _ _) := hR5
         have HX5 : Hid (Ent4 w5 wo.heap.size L) := Ent4.kept HX.out hK5 (by omega) (by omega) (by omega)
         have HE5 : Hid (RelAt w5 EB (enterAns c)) := (hK5.block EB (Array.getElem?_eq_some_iff.1 HE.out).1 (by omega) (by omega) (by omega)).trans HE.out
         clear hbg hS5 hF5 hR5 hK5 cL
         go_wp2_with fail
         go_roundw
         case rel => exact ⟨i + 1, nA' + 12, nW' + 12, _, _, _, by omega, by go_num, HS5.out, HM5.out, HR5.out, HX5.out, HE5.out, by omega, by omega⟩
         case measure => simp [intOf]; omega
       · have hii : i = ps.length := by omega
         subst hii
         go_wp2_with fail
         have hcnt := HF.out.w.count
         have hmin : min 1 (mapN wr W) ≤ 1 := Nat.min_le_left _ _
         have hmin2 : min 1 mm = 1 := by omega
         have he1 := HF.out.fb.ents hgs HM.out.len
         have he2 := HS.out.s.fb.ents hgs HS.out.m.len
         have hlow : (E' = E ∧ mapN wr W = 0) ∨ room E' < room E := by
          rcases HRn.out with ⟨e1, e2⟩ | h
          · exact .inl ⟨e1, hcnt.2.2 (fun i k _ _ => e2 i k)⟩
          · exact .inr h
         rw [hmm9, hmin2] at hra
         refine ⟨⟨nA', nW', _, E', f', g', HF.out, HM.out, HE.out, ?_, by omega⟩, ?_⟩
         · rcases hlow with ⟨rfl, h0⟩ | h
           · rw [h0]; omega
           · omega
         · rw [he1, he2, hmin2]
           rcases hlow with ⟨rfl, h0⟩ | h
           · rw [h0]; omega
           · omega

theorem findingsOf (ps : List (List Stm)) (c : Int) (v : Value) (w : World) (hc : c = 1 ∨ c = 2) (hp : CanP ps) (h1 : 1 ≤ ps.length) (h4 : ps.length ≤ 4) (hv : ReadsP w v ps) :
 Calls Try.prog 45 #[.agg #[v], .int .i64 c] w fun e w' => ∃ gs G A W nA nW E f g, e = .returned (.pointer (some ⟨G, 0, none⟩)) ∧ Rows7 48 gs ∧ InI c ps (rowI gs) ∧ IsEnt c ps (rowI gs) E ∧ E.length = 4 ∧ FND v gs w G A W nA nW E f g w' ∧ Apart3 w G A W ∧
  (∀ i (hi : i < ps.length) k, k < ps[i].length → (f i k).getD 0 = img (rowI gs i k) (E.getD i 0)) ∧ (∀ i k : Int, f i k ≠ none → ∃ (a b : Nat) (ha : a < ps.length), b < ps[a].length ∧ i = a ∧ k = b) := by
 have b0 : Below w.heap.size w (w.alloc (.cells #[v] 30)) := by go_grown
 have hP0 := heap_alloc_new w (.cells #[v] 30)
 have hv0 := hv
 obtain ⟨ao, cap, rfl, _⟩ := hv
 go_enter Try.func45, Try.ntmps45
 go_wp2_with fail
 generalize w.alloc (.cells #[.slice ao ps.length cap] 30) = w1 at *
 obtain ⟨c1, f1⟩ := one_cell hP0
 have z1 : w.heap.size < w1.heap.size := (Array.getElem?_eq_some_iff.1 hP0).1
 refine wp_region_held_drew (S := fun w' => w'.cell? ⟨w.heap.size, 0, none⟩ = some (.slice ao ps.length cap)) (by kernel_rfl) c1 (fun hHeld => ?_)
 refine wpAnyH_take (i := 0) (oi := ?oiq0) (v := .agg #[.slice ao ps.length cap]) ?hiq0 (by kernel_rfl) (by kernel_rfl) (by kernel_rfl) ?hqq0 ?hyq0 hHeld ?hrq0
 case hiq0 =>
  simp only [gA, gB, gC]
  rfl
 case hqq0 => exact fun _ _ _ h => h
 case hyq0 => exact Or.inl ⟨by kernel_rfl, fun w hSw => by have s1 := hSw; go_simp⟩
 try simp only [Act.put, gD, gE, gF]
 refine wpAnyH_take (i := 1) (oi := ?oiq1) (v := .int .i64 c) ?hiq1 (by kernel_rfl) (by kernel_rfl) (by kernel_rfl) ?hqq1 ?hyq1 hHeld ?hrq1
 case hiq1 =>
  simp only [gA, gB, gC]
  rfl
 case hqq1 => exact fun _ _ _ h => h
 case hyq1 => exact Or.inl ⟨by kernel_rfl, fun w hSw => by go_simp⟩
 try simp only [Act.put, gD, gE, gF]
 refine wpAnyH_take (i := 2) (oi := ?oiq2) (v := .agg #[.slice ao ps.length cap]) ?hiq2 (by kernel_rfl) (by kernel_rfl) (by kernel_rfl) ?hqq2 ?hyq2 hHeld ?hrq2
 case hiq2 =>
  simp only [gA, gB, gC]
  rfl
 case hqq2 => exact fun _ _ _ h => h
 case hyq2 => exact Or.inl ⟨by kernel_rfl, fun w hSw => by have s1 := hSw; go_simp⟩
 try simp only [Act.put, gD, gE, gF]
 refine wpAnyH_take (i := 3) (oi := ?oiq3) (v := .int .i64 c) ?hiq3 (by kernel_rfl) (by kernel_rfl) (by kernel_rfl) ?hqq3 ?hyq3 hHeld ?hrq3
 case hiq3 =>
  simp only [gA, gB, gC]
  rfl
 case hqq3 => exact fun _ _ _ h => h
 case hyq3 => exact Or.inl ⟨by kernel_rfl, fun w hSw => by go_simp⟩
 try simp only [Act.put, gD, gE, gF]
 refine wpAnyH_ready (rs := [4]) (by kernel_rfl) (by simp) ?_
 refine (AllReadyH.cons (o := ?ooq4) ?hoq4 (fun K hK => ?hkq4) AllReadyH.nil)
 case hoq4 =>
  simp only [gA, gB, gC]
  rfl
 case hkq4 =>
  go_simp
  go_at_call 53
  refine (tablesOf ps c _ w1.drew hc hp h4 (readsP_below hv0 (Below.drew b0))).mono ?_
  rintro e w2 ⟨T, rfl, hT7, hT, b2⟩
  have B2 : Hid (Below w1.heap.size w1 w2) := (Below.drew (Below.refl w1.heap.size w1)).trans b2
  have HT7 : Hid (Rows7 4 T) := hT7
  have HT : Hid (IsTables c ps T) := hT
  clear b2 hT7 hT
  try go_wp2_with fail
  refine hK.out _ _ ((B2.out.cell z1).trans c1) (fun hHeld => ?_)
  clear hK K
  try simp only [Act.put, gD, gE, gF]
  refine wpAnyH_ready (rs := [5]) (by kernel_rfl) (by simp) ?_
  refine (AllReadyH.cons (o := ?ooq5) ?hoq5 (fun K hK => ?hkq5) AllReadyH.nil)
  case hoq5 =>
   simp only [gA, gB, gC]
   rfl
  case hkq5 =>
   go_simp
   go_at_call 77
   refine (findingsWith ps c T _ w2 hc hp h1 h4 HT7.out HT.out (readsP_below hv0 (b0.trans (B2.out.mono b0.size)))).mono ?_
   rintro e w3 ⟨gs, G, A, W, nA, nW, E, f, g, rfl, hgs, hin, hent, hE4, hF, hap, hah, hout⟩
   have HR : Hid _ := hF
   have B3 : Hid (Below w1.heap.size w1 w3) := B2.out.trans (hF.bl.mono B2.out.size)
   have HAP : Hid _ := hap
   have HX : Hid _ := And.intro hgs (And.intro hin (And.intro hent (And.intro hE4 (And.intro hah hout))))
   clear hF hap hgs hin hent hE4 hah hout
   try go_wp2_with fail
   refine hK.out _ _ ((B3.out.cell z1).trans c1) (fun hHeld => ?_)
   clear hK K
   try simp only [Act.put, gD, gE, gF]
   refine wpAnyH_take (i := 6) (oi := ?oiq6) (v := .pointer (some ⟨G, 0, none⟩)) ?hiq6 (by kernel_rfl) (by kernel_rfl) (by kernel_rfl) ?hqq6 ?hyq6 hHeld ?hrq6
   case hiq6 =>
    simp only [gA, gB, gC]
    rfl
   case hqq6 => exact fun _ _ _ h => h
   case hyq6 => exact Or.inl ⟨by kernel_rfl, fun w hSw => by go_simp⟩
   try simp only [Act.put, gD, gE, gF]
   refine wpAnyH_done (by kernel_rfl) ?_ _
   go_wp2_with fail
   go_ret
   obtain ⟨x1, x2, x3, x4, x5, x6⟩ := HX.out
   have z2 := B2.out.size
   have zb := b0.size
   exact ⟨gs, G, A, W, nA, nW, E, f, g, rfl, x1, x2, x3, x4, ⟨HR.out.fb, HR.out.a, HR.out.w, b0.trans (B3.out.mono b0.size)⟩, ⟨by have := HAP.out.g; omega, by have := HAP.out.a; omega, by have := HAP.out.w; omega, HAP.out.ga, HAP.out.gw, HAP.out.aw⟩, x5, x6⟩

end Go.Proofs.Ytnjbihfceckpfaa
