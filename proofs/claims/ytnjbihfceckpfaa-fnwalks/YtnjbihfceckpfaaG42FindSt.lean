/-
 Put together out of: ImplFix, ImplRels, FindSt.
-/
import Derived.Test.YtnjbihfceckpfaaImplPass
import Derived.Test.YtnjbihfceckpfaaG18TabEx
import Derived.Laws.EntriesVeiled
import Derived.Test.YtnjbihfceckpfaaEntP
import Derived.Test.YtnjbihfceckpfaaMapPl
/-
 Chapter 10, the program's side: fromNothing, over the relations of a procedure's statements and over the tables.
-/
namespace Go.Proofs.Ytnjbihfceckpfaa
open Go.RowKit
set_option linter.unusedVariables false
set_option linter.unusedSimpArgs false
set_option maxHeartbeats 4000000
set_option maxRecDepth 20000

/-- What fromNothing has in memory. -/
structure FS (ft t : TypeId) (n : Nat) (cl : Value) (w : World) (R : List (List Int)) (wr : World) : Prop where
 f : wr.heap[w.heap.size]? = some (.cells #[cl] ft (0, 0))
 z : TabR wr (w.heap.size + 1) t (List.replicate n zero7)
 a : TabR wr (w.heap.size + 1 + 1) t R
 bl : Below w.heap.size w wr

theorem FS.below {ft t : TypeId} {n : Nat} {cl : Value} {w : World} {R : List (List Int)} {wr wr' : World} (h : FS ft t n cl w R wr) (hb : Below wr.heap.size wr wr') : FS ft t n cl w R wr' :=
 ⟨(hb.block _ (Array.getElem?_eq_some_iff.1 h.f).1).trans h.f, h.z.below hb, h.a.below hb, h.bl.trans (hb.mono h.bl.size)⟩

theorem FS.grown {ft t : TypeId} {n : Nat} {cl : Value} {w : World} {R : List (List Int)} {wr wr' : World} {B : Nat} (h : FS ft t n cl w R wr) (hg : wr.grownBy wr' (some B)) (hB : w.heap.size + 1 + 1 < B) : FS ft t n cl w R wr' :=
 ⟨(hg.block _ (Array.getElem?_eq_some_iff.1 h.f).1 (fun e => by cases e; omega)).trans h.f, h.z.grown hg (fun e => by cases e; omega), h.a.grown hg (fun e => by cases e; omega), h.bl.grown hg h.bl.size (fun k hk => by cases hk; omega)⟩

theorem FS.turned {ft t : TypeId} {n : Nat} {cl : Value} {w : World} {R R2 : List (List Int)} {wr wr' : World} (h : FS ft t n cl w R wr) (hT : TabR wr' (w.heap.size + 1 + 1) t R2) (hg : wr.grownBy wr' (some (w.heap.size + 1 + 1))) : FS ft t n cl w R2 wr' :=
 ⟨(hg.block _ (Array.getElem?_eq_some_iff.1 h.f).1 (fun e => by have := Option.some.inj e; omega)).trans h.f, h.z.grown hg (fun e => by have := Option.some.inj e; omega), hT, h.bl.grown hg h.bl.size (fun k hk => by cases hk; omega)⟩

def cellRoom9 : Option Value → Nat
 | some (.int _ x) => (127 - x).toNat
 | _ => 0
/-- Room in the cells of a block. -/
def roomB (w : World) (G n : Nat) : Nat := ((List.range n).map (fun k => cellRoom9 (w.cell? ⟨G, k, none⟩))).sum

theorem room_append (xs ys : List Int) : room (xs ++ ys) = room xs + room ys := by simp [room]
theorem room_flatten : ∀ gs : List (List Int), room gs.flatten = roomT gs
 | [] => rfl
 | g :: gs => by
  rw [List.flatten_cons, room_append, room_flatten gs]
  simp [roomT]

theorem roomB_eq {w : World} {G n : Nat} {t : TypeId} {gs : List (List Int)} (h : TabR w G t gs) (hr : Rows7 n gs) : roomB w G (7 * n) = roomT gs := by
 rw [← room_flatten, ← hr.flat]
 have hc := fun i => (h.cell i).1
 revert hc
 generalize gs.flatten = L
 intro hc
 unfold roomB room
 congr 1
 refine List.ext_getElem (by simp) (fun i h1 h2 => ?_)
 simp at h1
 rw [List.getElem_map, List.getElem_map, List.getElem_range, hc i]
 simp [ints, h1, cellRoom9]

theorem zero_good (n : Nat) : GoodN n (List.replicate n zero7) := fun i hi => by
 have e : (List.replicate n zero7).getD i [] = zero7 := by simp [List.getD, hi]
 rw [e]; exact zero7_smalls

theorem zero_under (n : Nat) (C : List (List Int)) : SubN n (List.replicate n zero7) C := fun i hi => by
 have e : (List.replicate n zero7).getD i [] = zero7 := by simp [List.getD, hi]
 rw [e]; exact zero7_sub _

theorem fix12 (ss : List Stm) (E : Nat → List Int) (ES : List (List Int)) (v : Value) (P Q : Nat) (w : World) (hp : procOk ss = true) (hE : ∀ i, i < ss.length → Smalls (E i) ∧ ES.getD i [] = E i) (hES : Rows7 12 ES) (hv : Reads3 w v ss) (hP : w.heap[P]? = some (.cells #[v] 81 (0, 0))) (hQ : TabR w Q 66 ES) :
 Calls Try.prog 144 #[.agg #[Value.func (.func 141) #[] #[.pointer (some ⟨P, 0, none⟩), .pointer (some ⟨Q, 0, none⟩)]]] w fun e w' => ∃ R, e = .returned (tabR R) ∧ Rows7 12 R ∧ IsInner E ss R ∧ Below w.heap.size w w' := by
 have hz : ∀ w, (zeroValue 66).run Try.prog w = .ok (.agg (ints (List.replicate 12 zero7).flatten).toArray) w := isTab12.zero
 obtain ⟨zs, hzs⟩ : ∃ zs, ints (List.replicate 12 zero7).flatten = zs := ⟨_, rfl⟩
 rw [hzs] at hz
 have HZ : Hid _ := hzs
 obtain ⟨cl, hcl⟩ : ∃ cl, Value.func (.func 141) #[] #[.pointer (some ⟨P, 0, none⟩), .pointer (some ⟨Q, 0, none⟩)] = cl := ⟨_, rfl⟩
 obtain ⟨hpos, h12, _⟩ := procOk_parts hp
 have HCL : Hid _ := hcl
 rw [hcl]
 clear hcl
 go_enter Try.func144, Try.ntmps144
 go_wp2_with fail
 obtain ⟨W, hW⟩ : ∃ W, ((w.alloc (.cells #[cl] 180)).alloc (.cells zs.toArray 66)).alloc (.cells zs.toArray 66) = W := ⟨_, rfl⟩
 have S0 : FS 180 66 12 cl w (List.replicate 12 zero7) W := by
  refine ⟨?_, ?_, ?_, by rw [← hW]; go_grown⟩
  · rw [← hW, old_block (by simp; omega), old_block (by simp)]; exact heap_alloc_new w _
  · unfold TabR
    rw [← hW, old_block (by simp), hzs]
    have := heap_alloc_new (w.alloc (.cells #[cl] 180)) (.cells zs.toArray 66)
    simpa using this
  · unfold TabR
    rw [← hW, hzs]
    have := heap_alloc_new ((w.alloc (.cells #[cl] 180)).alloc (.cells zs.toArray 66)) (.cells zs.toArray 66)
    simpa using this
 rw [hW]
 clear hW hzs
 go_loopw [4] (fun _ wr => ∃ R, FS 180 66 12 cl w R wr ∧ Rows7 12 R ∧ (GoodN 12 R ∧ Und E ss R)) (fun _ wr => roomB wr (w.heap.size + 1 + 1) (7 * 12))
 case atStart => exact ⟨_, S0, Rows7.zero 12, zero_good 12, fun C hC hc i hi => zero_under 12 C i (by omega)⟩
 case round =>
  obtain ⟨R, S, hR, I⟩ := hrel
  clear S0
  obtain ⟨cf, _⟩ := one_cell S.f
  have HM0 : Hid (roomB wr (w.heap.size + 1 + 1) (7 * 12) = roomT R) := roomB_eq S.a hR
  have hcall := pass1 ss E ES R v P Q wr hp hE hES hR I.1 (reads3_below hv S.bl) ((S.bl.block P (Array.getElem?_eq_some_iff.1 hP).1).trans hP) (hQ.below S.bl)
  have HS : Hid _ := S
  have HR : Hid (Rows7 12 R) := hR
  have HI : Hid _ := I
  have s0 := S.a.lt
  obtain rfl := HCL.out
  clear S hR I
  go_wp2_with (first
   | refine wpList_loadTabR isTab12 rfl (.tmp 3) rfl (w.heap.size + 1 + 1) R rfl HR.out HS.out.a ?_)
  refine hcall.mono ?_
  rintro e w2 ⟨R2, rfl, hI2, b2⟩
  clear hcall
  have S2 := HS.out.below b2
  have HS2 : Hid _ := S2
  have HR2 : Hid (Rows7 12 R2) := hI2.rows
  have HI2 : Hid (PassI E ss R ss.length R2) := hI2
  obtain ⟨w3, hw3⟩ : ∃ z, w2.alloc (.cells zs.toArray 66) = z := ⟨_, rfl⟩
  have T3 : TabR w3 w2.heap.size 66 (List.replicate 12 zero7) := by rw [← hw3, ← HZ.out]; exact tabR_new w2 _ _
  have B3 : Below w2.heap.size w2 w3 := by rw [← hw3]; go_grown
  have S3 := S2.below B3
  have HS3 : Hid _ := S3
  have HT3 : Hid (TabR w3 w2.heap.size 66 (List.replicate 12 zero7)) := T3
  have HW3 : Hid _ := hw3
  have s2 := S2.a.lt
  clear S2 S3 T3 hI2 cf hw3
  obtain ⟨b, hb⟩ : ∃ b, decide (R2 = R) = b := ⟨_, rfl⟩
  have HE : Hid (decide (R2 = R) = b) := hb
  clear hb
  go_wp2_with (first
   | (rw [HW3.out]; (with_reducible refine wpList_storeTabL (x := .tmp 4) (y := .tmp 8) isTab12 w2.heap.size (List.replicate 12 zero7) R2 ?hx ?hy (Rows7.zero 12) HR2.out HT3.out ?_); (case hx => rfl); (case hy => rfl); intro w4 T4 g4; have S4 : Hid _ := FS.grown HS3.out g4 (by omega); have HT4 : Hid (TabR w4 w2.heap.size 66 R2) := T4; clear T4 g4)
   | ((with_reducible refine wpList_loadTabL (x := .tmp 4) isTab12 w2.heap.size R2 ?hx HR2.out HT4.out ?_); (case hx => rfl))
   | ((with_reducible refine wpList_loadTabL (x := .tmp 3) isTab12 (w.heap.size + 1 + 1) R ?hx HR.out S4.out.a ?_); (case hx => rfl))
   | ((with_reducible refine wpList_eqTabR' isTab12 R2 R b ?h1 ?h2 HR2.out HR.out HE.out ?_); (case h1 => rfl); (case h2 => rfl); refine stop_of ?_))
  unfold Stop
  clear HT3 HW3 HS3 HS2 hz
  cases b with
  | true =>
   have hq : R2 = R := of_decide_eq_true HE.out
   have HQ : Hid (R2 = R) := hq
   clear hq
   clear HE
   go_wp2_with (first
    | ((with_reducible refine wpList_loadTabL (x := .tmp 3) isTab12 (w.heap.size + 1 + 1) R ?hx HR.out S4.out.a ?_); (case hx => rfl))
    | ((with_reducible refine wpList_storeTabL (x := .tmp 2) (y := .tmp 12) isTab12 (w.heap.size + 1) (List.replicate 12 zero7) R ?hx ?hy (Rows7.zero 12) HR.out S4.out.z ?_); (case hx => rfl); (case hy => rfl); intro w5 T5 g5; have HT5 : Hid (TabR w5 (w.heap.size + 1) 66 R) := T5; have G5 : Hid _ := g5; clear T5 g5; refine stop_of ?_))
   unfold Stop
   go_wp2
   refine bodyPost_tabR isTab12 rfl (w.heap.size + 1) R rfl HR.out HT5.out rfl ⟨R, rfl, HR.out, ?_, ?_⟩
   · have hI2 := HI2.out
     rw [HQ.out] at hI2
     exact ⟨fun i hi => HI.out.1 i (by omega), ⟨hI2.unit, fun i hi x hx => hI2.done i hi hi x hx⟩, HI.out.2⟩
   · exact S4.out.bl.grown G5.out S4.out.bl.size (fun k hk => by cases hk; omega)
  | false =>
   have hq : ¬ R2 = R := of_decide_eq_false HE.out
   have HQ : Hid (¬ R2 = R) := hq
   clear hq
   clear HE
   go_wp2_with (first
    | ((with_reducible refine wpList_loadTabL (x := .tmp 4) isTab12 w2.heap.size R2 ?hx HR2.out HT4.out ?_); (case hx => rfl))
    | ((with_reducible refine wpList_storeTabL (x := .tmp 3) (y := .tmp 13) isTab12 (w.heap.size + 1 + 1) R R2 ?hx ?hy HR.out HR2.out S4.out.a ?_); (case hx => rfl); (case hy => rfl); intro w5 T5 g5; have HT5 : Hid (TabR w5 (w.heap.size + 1 + 1) 66 R2) := T5; have G5 : Hid _ := g5; clear T5 g5; refine stop_of ?_))
   unfold Stop
   go_wp2
   go_roundw
   case rel => exact ⟨R2, FS.turned S4.out HT5.out G5.out, HR2.out, HI2.out.good, fun C hC hc => HI2.out.und C hC hc (HI.out.2 C hC hc)⟩
   case measure =>
    rw [HM0.out, roomB_eq HT5.out HR2.out]
    refine roomT_ne (by rw [HR.out.1, HR2.out.1]) (by rw [HR.out.1]; exact HI.out.1) (by rw [HR.out.1]; exact HI2.out.good) (by rw [HR.out.1]; exact HI2.out.sub) (fun e => HQ.out e.symm)

end Go.Proofs.Ytnjbihfceckpfaa

/-
 Chapter 10, the program's side: relationsWith.
-/
namespace Go.Proofs.Ytnjbihfceckpfaa
open Go.RowKit
set_option linter.unusedVariables false
set_option linter.unusedSimpArgs false
set_option maxHeartbeats 4000000
set_option maxRecDepth 20000

/-- What relationsWith has in memory. -/
structure QS (v : Value) (T : List (List Int)) (w : World) (ES : List (List Int)) (wr : World) : Prop where
 p : wr.heap[w.heap.size]? = some (.cells #[v] 81 (0, 0))
 t : TabR wr (w.heap.size + 1) 88 T
 z : TabR wr (w.heap.size + 1 + 1) 66 (List.replicate 12 zero7)
 e : TabR wr (w.heap.size + 1 + 1 + 1) 66 ES
 bl : Below w.heap.size w wr

theorem QS.below {v : Value} {T : List (List Int)} {w : World} {ES : List (List Int)} {wr wr' : World} (h : QS v T w ES wr) (hb : Below wr.heap.size wr wr') : QS v T w ES wr' :=
 ⟨(hb.block _ (Array.getElem?_eq_some_iff.1 h.p).1).trans h.p, h.t.below hb, h.z.below hb, h.e.below hb, h.bl.trans (hb.mono h.bl.size)⟩

theorem QS.turned {v : Value} {T : List (List Int)} {w : World} {ES ES' : List (List Int)} {wr wr' : World} (h : QS v T w ES wr) (hT : TabR wr' (w.heap.size + 1 + 1 + 1) 66 ES') (hg : wr.grownBy wr' (some (w.heap.size + 1 + 1 + 1))) : QS v T w ES' wr' :=
 ⟨(hg.block _ (Array.getElem?_eq_some_iff.1 h.p).1 (fun e => by have := Option.some.inj e; omega)).trans h.p, h.t.grown hg (fun e => by have := Option.some.inj e; omega), h.z.grown hg (fun e => by have := Option.some.inj e; omega), hT, h.bl.grown hg h.bl.size (fun k hk => by cases hk; omega)⟩

theorem relationsWith (ss : List Stm) (c : Int) (T : List (List Int)) (n : Nat) (v : Value) (w : World) (hc : c = 1 ∨ c = 2) (hn : n ≤ 4) (hp : procOk ss = true) (hs : ∀ s ∈ ss, CanS n s) (hR : Rows7 4 T) (hT : GoodN n T) (hv : Reads3 w v ss) :
 Calls Try.prog 117 #[.agg #[v], .int .i64 c, tabR T] w fun e w' => ∃ R, e = .returned (tabR R) ∧ Rows7 12 R ∧ IsInner (effN c T ss) ss R ∧ Below w.heap.size w w' := by
 obtain ⟨hpos, h12, _⟩ := procOk_parts hp
 have hz : ∀ w, (zeroValue 66).run Try.prog w = .ok (.agg (ints (List.replicate 12 zero7).flatten).toArray) w := isTab12.zero
 obtain ⟨zs, hzs⟩ : ∃ zs, ints (List.replicate 12 zero7).flatten = zs := ⟨_, rfl⟩
 rw [hzs] at hz
 obtain ⟨ts, hts⟩ : ∃ ts, ints T.flatten = ts := ⟨_, rfl⟩
 have hv3 := hv
 obtain ⟨ao, cap, rfl, hcell⟩ := hv
 unfold tabR
 rw [hts]
 go_enter Try.func117, Try.ntmps117
 go_wp2_with fail
 obtain ⟨W, hW⟩ : ∃ W, (((w.alloc (.cells #[.slice ao ss.length cap] 81)).alloc (.cells ts.toArray 88)).alloc (.cells zs.toArray 66)).alloc (.cells zs.toArray 66) = W := ⟨_, rfl⟩
 have S0 : QS (.slice ao ss.length cap) T w (List.replicate 12 zero7) W := by
  have a1 : (w.alloc (.cells #[.slice ao ss.length cap] 81)).heap.size = w.heap.size + 1 := by simp
  have a2 : ((w.alloc (.cells #[.slice ao ss.length cap] 81)).alloc (.cells ts.toArray 88)).heap.size = w.heap.size + 1 + 1 := by simp
  have a3 : (((w.alloc (.cells #[.slice ao ss.length cap] 81)).alloc (.cells ts.toArray 88)).alloc (.cells zs.toArray 66)).heap.size = w.heap.size + 1 + 1 + 1 := by simp
  refine ⟨?_, ?_, ?_, ?_, by rw [← hW]; go_grown⟩
  · rw [← hW, old_block (by omega), old_block (by omega), old_block (by omega)]; exact heap_alloc_new w _
  · unfold TabR
    rw [← hW, old_block (by omega), old_block (by omega), hts]
    have := heap_alloc_new (w.alloc (.cells #[.slice ao ss.length cap] 81)) (.cells ts.toArray 88)
    rwa [a1] at this
  · unfold TabR
    rw [← hW, old_block (by omega), hzs]
    have := heap_alloc_new ((w.alloc (.cells #[.slice ao ss.length cap] 81)).alloc (.cells ts.toArray 88)) (.cells zs.toArray 66)
    rwa [a2] at this
  · unfold TabR
    rw [← hW, hzs]
    have := heap_alloc_new (((w.alloc (.cells #[.slice ao ss.length cap] 81)).alloc (.cells ts.toArray 88)).alloc (.cells zs.toArray 66)) (.cells zs.toArray 66)
    rwa [a3] at this
 rw [hW]
 clear hW hzs hts hz
 go_loopw [14] (fun iv wr => ∃ (i : Nat) (ES : List (List Int)), i ≤ ss.length ∧ iv = .int .i64 i ∧ QS (.slice ao ss.length cap) T w ES wr ∧ Rows7 12 ES ∧ ∀ j, j < i → ES.getD j [] = effN c T ss j) (fun iv _ => ss.length - (intOf iv).toNat)
 case atStart => exact ⟨0, _, Nat.zero_le _, rfl, S0, Rows7.zero 12, fun j h => absurd h (by omega)⟩
 case round =>
  obtain ⟨i, ES, hi, rfl, S, hES, hdone⟩ := hrel
  clear S0
  have HS : Hid _ := S
  have HES : Hid (Rows7 12 ES) := hES
  have HD : Hid _ := hdone
  by_cases hlt : i < ss.length
  · have hlt' : (i : Int) < (ss.length : Int) := by omega
    have hi12 : i < 12 := by omega
    have hi12' : (i : Int) < 12 := by omega
    obtain ⟨gs, off, rfl, k0, k1, k2⟩ := hcell i ss[i] (by simp [hlt])
    have M0 := S.bl
    have k0 := (M0.cell (World.block_lt_of_cell? w _ k0)).trans k0
    have k1 := (M0.cell (World.block_lt_of_cell? w _ k1)).trans k1
    have k2 := (M0.cell (World.block_lt_of_cell? w _ k2)).trans k2
    have hcan := hs _ (List.getElem_mem hlt)
    have hef := fun W => effectWith c T n ss[i] W hc hn hcan hR hT
    have heS := effL_smalls hc hT hcan
    have Hen : Hid (effN c T ss i = effL c T ss[i]) := effN_eq hlt
    generalize effL c T ss[i] = ei at *
    have He7 : Hid (ei.length = 7) := heS.1
    clear hdone hcan S
    go_wp2_with (first
     | ((with_reducible refine wpList_loadTabL (x := .tmp 5) isTab4 (w.heap.size + 1) T ?hx hR ?hT ?_); (case hx => rfl); (case hT => exact (HS.out.below (by go_grown)).t)))
    go_at_call 140
    refine (hef _).mono ?_
    rintro e w2 ⟨rfl, b2⟩
    clear hef
    have B2 : Below wr.heap.size wr w2 := Below.trans (by go_grown) (b2.mono (by simp))
    have S2 : Hid _ := HS.out.below B2
    clear b2 B2
    go_wp2_with (first
     | ((with_reducible refine wpList_storeRowL (x := .tmp 24) (y := .tmp 23) (w.heap.size + 1 + 1 + 1) i ES ei ?hx ?hy He7.out HES.out hi12 S2.out.e ?_); (case hx => rfl); (case hy => rfl); intro w3 T3 g3; have S3 : Hid _ := QS.turned S2.out T3 g3; clear T3 g3; refine stop_of ?_))
    unfold Stop
    go_wp2
    go_roundw
    case rel =>
     have hil : i < ES.length := by rw [HES.out.1]; exact hi12
     refine ⟨i + 1, _, by omega, by go_num, S3.out, HES.out.set heS.1, fun j hj => ?_⟩
     rw [getD_set hil]
     split
     · rename_i e; subst e; exact Hen.out.symm
     · exact HD.out j (by omega)
    case measure => simp [intOf]; omega
  · have hii : i = ss.length := by omega
    subst hii
    have hfix := fun W (hW : Below wr.heap.size wr W) => fix12 ss (effN c T ss) ES (.slice ao ss.length cap) w.heap.size (w.heap.size + 1 + 1 + 1) W hp (fun j hj => ⟨by rw [effN_eq hj]; exact effL_smalls hc hT (hs _ (List.getElem_mem hj)), HD.out j hj⟩) HES.out (reads3_below hv3 (HS.out.bl.trans (hW.mono HS.out.bl.size))) (HS.out.below hW).p (HS.out.below hW).e
    clear S hES hdone
    go_wp2_with fail
    go_at_call 144
    refine (hfix _ (by go_grown)).mono ?_
    rintro e w2 ⟨R, rfl, hR2, hI2, b2⟩
    clear hfix
    have B2 : Below wr.heap.size wr w2 := Below.trans (by go_grown) (b2.mono (by simp))
    have S2 : Hid _ := HS.out.below B2
    have HR2 : Hid (Rows7 12 R) := hR2
    have HI2 : Hid _ := hI2
    clear b2 B2 hR2 hI2
    go_wp2_with (first
     | ((with_reducible refine wpList_storeTabL (x := .tmp 6) (y := .tmp 29) isTab12 (w.heap.size + 1 + 1) (List.replicate 12 zero7) R ?hx ?hy (Rows7.zero 12) HR2.out S2.out.z ?_); (case hx => rfl); (case hy => rfl); intro w5 T5 g5; have HT5 : Hid (TabR w5 (w.heap.size + 1 + 1) 66 R) := T5; have G5 : Hid _ := g5; clear T5 g5; refine stop_of ?_))
    unfold Stop
    go_wp2
    refine bodyPost_tabR isTab12 rfl (w.heap.size + 1 + 1) R rfl HR2.out HT5.out rfl ⟨R, rfl, HR2.out, HI2.out, ?_⟩
    exact S2.out.bl.grown G5.out S2.out.bl.size (fun k hk => by cases hk; omega)

end Go.Proofs.Ytnjbihfceckpfaa

/-
 Chapter 11: what was found out of a program, as it lies in memory: one block of 343 cells and two maps.
-/
namespace Go.Proofs.Ytnjbihfceckpfaa
open Go.RowKit
set_option linter.unusedVariables false
set_option linter.unusedSimpArgs false
set_option maxHeartbeats 1000000

/-- The cells of findings. -/
def FBc (v : Value) (gs : List (List Int)) (E : List Int) (A W : Nat) : List Value := v :: (ints gs.flatten ++ (ints E ++ [.map (some A), .map (some W)]))
def FB (w : World) (G : Nat) (v : Value) (gs : List (List Int)) (E : List Int) (A W : Nat) : Prop := w.heap[G]? = some (.cells (FBc v gs E A W).toArray 73 (0, 0))

section
variable {w w' : World} {G : Nat} {v : Value} {gs : List (List Int)} {E : List Int} {A W : Nat}

theorem FBc_len (hr : Rows7 48 gs) (hE : E.length = 4) : (FBc v gs E A W).length = 343 := by
 simp [FBc, ints_length, hr.flat, hE]
theorem FBc_row (hr : Rows7 48 gs) {j : Nat} (hj : j < 336) : (FBc v gs E A W)[1 + j]? = (ints gs.flatten)[j]? := by
 unfold FBc
 rw [Nat.add_comm, List.getElem?_cons_succ, List.getElem?_append_left (by rw [ints_length, hr.flat]; omega)]
theorem FBc_ent (hr : Rows7 48 gs) (hE : E.length = 4) {i : Nat} (hi : i < 4) : (FBc v gs E A W)[337 + i]? = some (.int .i64 (E.getD i 0)) := by
 unfold FBc
 have hl : (ints gs.flatten).length = 336 := by rw [ints_length, hr.flat]
 rw [show 337 + i = (336 + i) + 1 by omega, List.getElem?_cons_succ, List.getElem?_append_right (by omega), hl, show 336 + i - 336 = i by omega, List.getElem?_append_left (by rw [ints_length]; omega)]
 simp [ints, List.getD, hE, hi]
theorem FBc_map (hr : Rows7 48 gs) (hE : E.length = 4) : (FBc v gs E A W)[341]? = some (.map (some A)) ∧ (FBc v gs E A W)[342]? = some (.map (some W)) := by
 unfold FBc
 have hl : (ints gs.flatten).length = 336 := by rw [ints_length, hr.flat]
 have he : (ints E).length = 4 := by rw [ints_length, hE]
 constructor
 · rw [show 341 = (336 + 4) + 1 by omega, List.getElem?_cons_succ, List.getElem?_append_right (by omega), hl, show 336 + 4 - 336 = 4 by omega, List.getElem?_append_right (by omega), he]; rfl
 · rw [show 342 = (336 + 5) + 1 by omega, List.getElem?_cons_succ, List.getElem?_append_right (by omega), hl, show 336 + 5 - 336 = 5 by omega, List.getElem?_append_right (by omega), he]; rfl

theorem FB.lt (h : FB w G v gs E A W) : G < w.heap.size := (Array.getElem?_eq_some_iff.1 h).1
theorem FB.same (h : FB w G v gs E A W) (hb : w'.heap[G]? = w.heap[G]?) : FB w' G v gs E A W := hb.trans h
theorem FB.below (h : FB w G v gs E A W) (hb : Below w.heap.size w w') : FB w' G v gs E A W := h.same (hb.block G h.lt)
theorem FB.cell (h : FB w G v gs E A W) (k : Nat) : w.cell? ⟨G, k, none⟩ = (FBc v gs E A W)[k]? := by
 rw [cell_of_row w G k _ _ (0, 0) h]; simp
theorem FB.frozen (h : FB w G v gs E A W) (k : Nat) : w.frozen? ⟨G, k, none⟩ = false := by
 unfold World.frozen?
 rw [show w.heap[(⟨G, k, none⟩ : Addr).block]? = _ from h]
 simp
theorem FB.c0 (h : FB w G v gs E A W) : w.cell? ⟨G, 0, none⟩ = some v := by rw [h.cell]; rfl
theorem FB.ent (h : FB w G v gs E A W) (hr : Rows7 48 gs) (hE : E.length = 4) {i : Nat} (hi : i < 4) : w.cell? ⟨G, 337 + i, none⟩ = some (.int .i64 (E.getD i 0)) := by rw [h.cell, FBc_ent hr hE hi]
theorem FB.mA (h : FB w G v gs E A W) (hr : Rows7 48 gs) (hE : E.length = 4) : w.cell? ⟨G, 341, none⟩ = some (.map (some A)) := by rw [h.cell, (FBc_map hr hE).1]
theorem FB.mW (h : FB w G v gs E A W) (hr : Rows7 48 gs) (hE : E.length = 4) : w.cell? ⟨G, 342, none⟩ = some (.map (some W)) := by rw [h.cell, (FBc_map hr hE).2]
theorem FB.row (h : FB w G v gs E A W) (hr : Rows7 48 gs) {i k : Nat} (hi : i < 4) (hk : k < 12) : w.rangeAt G (1 + i * 84 + k * 7) (ints (gs.getD (12 * i + k) [])) := fun j x hx => by
 have hjr := hr.row (j := 12 * i + k) (by omega)
 have hj : j < 7 := by
  have := (List.getElem?_eq_some_iff.1 hx).1
  rw [ints_length, hjr] at this; exact this
 rw [h.cell, show 1 + i * 84 + k * 7 + j = 1 + (7 * (12 * i + k) + j) by omega, FBc_row hr (by omega)]
 unfold ints at hx ⊢
 rw [List.getElem?_map, flat7_get _ hr.2 _ _ hj]
 rw [List.getElem?_map] at hx
 have hl : 12 * i + k < gs.length := by rw [hr.1]; omega
 rw [List.getElem?_eq_getElem hl, Option.bind_some]
 have : gs.getD (12 * i + k) [] = gs[12 * i + k] := by simp [List.getD, hl]
 rw [this] at hx
 exact hx

theorem FB.setE (h : FB w G v gs E A W) (hr : Rows7 48 gs) (hE : E.length = 4) {i : Nat} (hi : i < 4) (x : Int) : FB (w.setCell ⟨G, 337 + i, none⟩ (.int .i64 x)) G v gs (E.set i x) A W := by
 have hl := FBc_len (v := v) (A := A) (W := W) hr hE
 unfold FB
 rw [heap_setCell_same w G (337 + i) _ _ (.int .i64 x) h]
 congr 2
 refine Array.ext' ?_
 simp only [Array.toList_setIfInBounds]
 unfold FBc
 have h1 : (ints gs.flatten).length = 336 := by rw [ints_length, hr.flat]
 rw [show 337 + i = (336 + i) + 1 by omega, List.set_cons_succ, List.set_append_right _ _ (by omega), h1, show 336 + i - 336 = i by omega, List.set_append_left _ _ (by rw [ints_length]; omega)]
 simp [ints]

/-- Another table in place i. -/
def putT (gs : List (List Int)) (i : Nat) (R : List (List Int)) : List (List Int) := gs.take (12 * i) ++ (R ++ gs.drop (12 * i + 12))

theorem putT_rows {R : List (List Int)} {i : Nat} (hr : Rows7 48 gs) (hR : Rows7 12 R) (hi : i < 4) : Rows7 48 (putT gs i R) := by
 unfold putT
 refine ⟨by simp [hr.1, hR.1]; omega, fun r h => ?_⟩
 simp only [List.mem_append] at h
 rcases h with h | h | h
 · exact hr.2 r (List.mem_of_mem_take h)
 · exact hR.2 r h
 · exact hr.2 r (List.mem_of_mem_drop h)

theorem putT_get {R : List (List Int)} {i : Nat} (hr : Rows7 48 gs) (hR : Rows7 12 R) (hi : i < 4) (j : Nat) : (putT gs i R)[j]? = if 12 * i ≤ j ∧ j < 12 * i + 12 then R[j - 12 * i]? else gs[j]? := by
 unfold putT
 have h1 : (gs.take (12 * i)).length = 12 * i := by simp [hr.1]; omega
 by_cases h : j < 12 * i
 · rw [List.getElem?_append_left (by omega), if_neg (by omega), List.getElem?_take, if_pos h]
 · rw [List.getElem?_append_right (by omega), h1]
   by_cases h2 : j < 12 * i + 12
   · rw [List.getElem?_append_left (by rw [hR.1]; omega), if_pos ⟨by omega, h2⟩]
   · rw [List.getElem?_append_right (by rw [hR.1]; omega), hR.1, if_neg (by omega), List.getElem?_drop]
     congr 1
     omega

theorem putT_at {R : List (List Int)} {i : Nat} (hr : Rows7 48 gs) (hR : Rows7 12 R) (hi : i < 4) {a k : Nat} (hk : k < 12) : (putT gs i R).getD (12 * a + k) [] = if a = i then R.getD k [] else gs.getD (12 * a + k) [] := by
 rw [List.getD_eq_getElem?_getD, putT_get hr hR hi]
 by_cases e : a = i
 · subst e
   rw [if_pos ⟨by omega, by omega⟩, if_pos rfl, show 12 * a + k - 12 * a = k by omega, List.getD_eq_getElem?_getD]
 · rw [if_neg (by omega), if_neg e, List.getD_eq_getElem?_getD]

theorem FB.there (h : FB w G v gs E A W) (hr : Rows7 48 gs) (hE : E.length = 4) {o n : Nat} (ho : o + n ≤ 343) : w.there G o n := fun k hk => by
 have hlt : o + k < (FBc v gs E A W).length := by rw [FBc_len hr hE]; omega
 exact ⟨by rw [h.cell, List.getElem?_eq_getElem hlt]; rfl, h.frozen _⟩

theorem FB.put {R : List (List Int)} {i : Nat} (h : FB w G v gs E A W) (hr : Rows7 48 gs) (hE : E.length = 4) (hR : Rows7 12 R) (hi : i < 4) : FB (w.setCells G (1 + i * 84) (ints R.flatten)) G v (putT gs i R) E A W := by
 obtain ⟨C, hC, hs⟩ := heap_setCells7 G 73 (ints R.flatten) (1 + i * 84) w _ h
 have hp := putT_rows hr hR hi
 have hRl : (ints R.flatten).length = 84 := by rw [ints_length, hR.flat]
 refine tab_of_cells hC (by rw [hs, List.size_toArray, FBc_len hr hE, FBc_len hp hE]) (fun k x hx => ?_)
 by_cases hk : 1 + i * 84 ≤ k ∧ k < 1 + i * 84 + 84
 · obtain ⟨j, rfl, hj⟩ : ∃ j, k = 1 + i * 84 + j ∧ j < 84 := ⟨k - (1 + i * 84), by omega, by omega⟩
   refine World.rangeAt_setCells_same w G (1 + i * 84) (ints R.flatten) (by rw [hRl]; exact h.there hr hE (by omega)) j x ?_
   rw [show 1 + i * 84 + j = 1 + (i * 84 + j) by omega, FBc_row hp (by omega)] at hx
   obtain ⟨q, r, hq, rfl⟩ : ∃ q r, r < 7 ∧ j = 7 * q + r := ⟨j / 7, j % 7, Nat.mod_lt _ (by omega), by omega⟩
   unfold ints at hx ⊢
   rw [List.getElem?_map, show i * 84 + (7 * q + r) = 7 * (12 * i + q) + r by omega, flat7_get _ hp.2 _ _ hq, putT_get hr hR hi, if_pos ⟨by omega, by omega⟩, show 12 * i + q - 12 * i = q by omega] at hx
   rw [List.getElem?_map, flat7_get _ hR.2 _ _ hq]
   exact hx
 · rw [World.cell?_setCells_out G (ints R.flatten) (1 + i * 84) w ⟨G, k, none⟩ (fun _ _ => by
    show k < 1 + i * 84 ∨ 1 + i * 84 + (ints R.flatten).length ≤ k
    rw [hRl]; omega), h.cell]
   rw [← hx]
   by_cases h0 : k = 0
   · subst h0; rfl
   · by_cases h1 : k < 337
     · obtain ⟨j, rfl, hj⟩ : ∃ j, k = 1 + j ∧ j < 336 := ⟨k - 1, by omega, by omega⟩
       rw [FBc_row hr hj, FBc_row hp hj]
       obtain ⟨q, r, hq, rfl⟩ : ∃ q r, r < 7 ∧ j = 7 * q + r := ⟨j / 7, j % 7, Nat.mod_lt _ (by omega), by omega⟩
       unfold ints
       rw [List.getElem?_map, List.getElem?_map, flat7_get _ hr.2 _ _ hq, flat7_get _ hp.2 _ _ hq, putT_get hr hR hi, if_neg (by omega)]
     · by_cases h2 : k < 341
       · obtain ⟨j, rfl, hj⟩ : ∃ j, k = 337 + j ∧ j < 4 := ⟨k - 337, by omega, by omega⟩
         rw [FBc_ent hr hE hj, FBc_ent hp hE hj]
       · have h3 : k < 343 := by
          have := (List.getElem?_eq_some_iff.1 hx).1
          rwa [FBc_len hp hE] at this
         obtain rfl | rfl : k = 341 ∨ k = 342 := by omega
         · rw [(FBc_map hr hE).1, (FBc_map hp hE).1]
         · rw [(FBc_map hr hE).2, (FBc_map hp hE).2]

end

/-- Nothing has turned but three blocks. -/
structure Kept3 (G A W : Nat) (w w' : World) : Prop where
 os : w'.os = w.os
 tape : w'.tape = w.tape
 output : w'.output = w.output
 size : w.heap.size ≤ w'.heap.size
 block : ∀ k, k < w.heap.size → k ≠ G → k ≠ A → k ≠ W → w'.heap[k]? = w.heap[k]?

theorem Kept3.refl (G A W : Nat) (w : World) : Kept3 G A W w w := ⟨rfl, rfl, rfl, Nat.le_refl _, fun _ _ _ _ _ => rfl⟩
theorem Kept3.trans {G A W : Nat} {w w' w'' : World} (h : Kept3 G A W w w') (k : Kept3 G A W w' w'') : Kept3 G A W w w'' :=
 ⟨k.os.trans h.os, k.tape.trans h.tape, k.output.trans h.output, Nat.le_trans h.size k.size, fun i hi h1 h2 h3 => (k.block i (Nat.lt_of_lt_of_le hi h.size) h1 h2 h3).trans (h.block i hi h1 h2 h3)⟩
theorem Kept3.of_below {G A W : Nat} {w w' : World} (h : Below w.heap.size w w') : Kept3 G A W w w' := ⟨h.os, h.tape, h.output, h.size, fun i hi _ _ _ => h.block i hi⟩
theorem Kept3.of_grown {G A W B : Nat} {w w' : World} (h : w.grownBy w' (some B)) (hB : B = G ∨ B = A ∨ B = W) : Kept3 G A W w w' :=
 ⟨h.os, h.tape, h.output, h.size, fun i hi h1 h2 h3 => h.block i hi (fun e => by cases e; rcases hB with e | e | e <;> contradiction)⟩
theorem Kept3.below {G A W : Nat} {w0 w w' : World} (h : Kept3 G A W w w') (hb : Below w0.heap.size w0 w) (hG : w0.heap.size ≤ G) (hA : w0.heap.size ≤ A) (hW : w0.heap.size ≤ W) : Below w0.heap.size w0 w' :=
 ⟨h.os.trans hb.os, h.tape.trans hb.tape, h.output.trans hb.output, Nat.le_trans hb.size h.size, fun i hi => (h.block i (Nat.lt_of_lt_of_le hi hb.size) (by omega) (by omega) (by omega)).trans (hb.block i hi)⟩

/-- The three blocks are apart and new since w0. -/
structure Apart3 (w0 : World) (G A W : Nat) : Prop where
 g : w0.heap.size ≤ G
 a : w0.heap.size ≤ A
 w : w0.heap.size ≤ W
 ga : G ≠ A
 gw : G ≠ W
 aw : A ≠ W

/-- What was found out, in memory. -/
structure FND (v : Value) (gs : List (List Int)) (w0 : World) (G A W nA nW : Nat) (E : List Int) (f g : Int → Int → Option Int) (wr : World) : Prop where
 fb : FB wr G v gs E A W
 a : MapAt wr A nA f
 w : MapAt wr W nW g
 bl : Below w0.heap.size w0 wr

section
variable {v : Value} {gs : List (List Int)} {w0 : World} {G A W nA nW : Nat} {E : List Int} {f g : Int → Int → Option Int} {wr wr' : World}

theorem FND.below (h : FND v gs w0 G A W nA nW E f g wr) (hb : Below wr.heap.size wr wr') : FND v gs w0 G A W nA nW E f g wr' :=
 ⟨h.fb.below hb, h.a.below hb, h.w.below hb, h.bl.trans (hb.mono h.bl.size)⟩
theorem FND.other {B : Nat} (h : FND v gs w0 G A W nA nW E f g wr) (hg : wr.grownBy wr' (some B)) (h1 : B ≠ G) (h2 : B ≠ A) (h3 : B ≠ W) (h0 : w0.heap.size ≤ B) : FND v gs w0 G A W nA nW E f g wr' :=
 ⟨h.fb.same (hg.block G h.fb.lt (fun e => h1 (Option.some.inj e).symm)), h.a.same (hg.block A h.a.lt (fun e => h2 (Option.some.inj e).symm)), h.w.same (hg.block W h.w.lt (fun e => h3 (Option.some.inj e).symm)), h.bl.grown hg h.bl.size (fun k hk => by cases hk; exact h0)⟩
theorem FND.turnG {E' : List Int} {gs' : List (List Int)} (h : FND v gs w0 G A W nA nW E f g wr) (hp : Apart3 w0 G A W) (hg : wr.grownBy wr' (some G)) (hf : FB wr' G v gs' E' A W) : FND v gs' w0 G A W nA nW E' f g wr' :=
 ⟨hf, h.a.same (hg.block A h.a.lt (fun e => hp.ga (Option.some.inj e).symm)), h.w.same (hg.block W h.w.lt (fun e => hp.gw (Option.some.inj e).symm)), h.bl.grown hg h.bl.size (fun k hk => by cases hk; exact hp.g)⟩
theorem FND.turnA {nA' : Nat} {f' : Int → Int → Option Int} (h : FND v gs w0 G A W nA nW E f g wr) (hp : Apart3 w0 G A W) (hg : wr.grownBy wr' (some A)) (hf : MapAt wr' A nA' f') : FND v gs w0 G A W nA' nW E f' g wr' :=
 ⟨h.fb.same (hg.block G h.fb.lt (fun e => hp.ga (Option.some.inj e))), hf, h.w.same (hg.block W h.w.lt (fun e => hp.aw (Option.some.inj e).symm)), h.bl.grown hg h.bl.size (fun k hk => by cases hk; exact hp.a)⟩
theorem FND.turnW {nW' : Nat} {g' : Int → Int → Option Int} (h : FND v gs w0 G A W nA nW E f g wr) (hp : Apart3 w0 G A W) (hg : wr.grownBy wr' (some W)) (hf : MapAt wr' W nW' g') : FND v gs w0 G A W nA nW' E f g' wr' :=
 ⟨h.fb.same (hg.block G h.fb.lt (fun e => hp.gw (Option.some.inj e))), h.a.same (hg.block A h.a.lt (fun e => hp.aw (Option.some.inj e))), hf, h.bl.grown hg h.bl.size (fun k hk => by cases hk; exact hp.w)⟩

end
end Go.Proofs.Ytnjbihfceckpfaa
