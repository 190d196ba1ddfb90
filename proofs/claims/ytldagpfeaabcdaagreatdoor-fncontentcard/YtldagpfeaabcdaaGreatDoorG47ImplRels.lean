/-
 Put together out of: ImplFix, ImplRels.
-/
import Derived.Test.YtldagpfeaabcdaaGreatDoorImplPass
import Derived.Test.YtldagpfeaabcdaaGreatDoorG35CallsBoth
import Derived.Laws.EntriesVeiled
namespace Go.Proofs.YtldagpfeaabcdaaGreatDoor
open Go.RowKit
set_option linter.unusedVariables false
set_option linter.unusedSimpArgs false
set_option maxHeartbeats 4000000
set_option maxRecDepth 20000
structure FS (ft t : TypeId) (n : Nat) (cl : Value) (w : World) (R : List (List Int)) (wr : World) : Prop where
 f : wr.heap[w.heap.size]? = some (.cells #[cl] ft (0, 0))
 z : TabR wr (w.heap.size + 1) t (List.replicate n zero7)
 a : TabR wr (w.heap.size + 1 + 1) t R
 bl : Below w.heap.size w wr
theorem FS.below {ft t : TypeId} {n : Nat} {cl : Value} {w : World} {R : List (List Int)} {wr wr' : World} (h : FS ft t n cl w R wr) (hb : Below wr.heap.size wr wr') : FS ft t n cl w R wr' :=
 ⟨(hb.block _ (Array.getElem?_eq_some_iff.1 h.f).1).trans h.f, h.z.below hb, h.a.below hb, h.bl.trans (hb.mono h.bl.size)⟩
theorem FS.grown {ft t : TypeId} {n : Nat} {cl : Value} {w : World} {R : List (List Int)} {wr wr' : World} {B : Nat} (h : FS ft t n cl w R wr) (hg : wr.grownBy wr' (some B)) (hB : w.heap.size + 1 + 1 < B) : FS ft t n cl w R wr' :=
 ⟨(hg.block _ (Array.getElem?_eq_some_iff.1 h.f).1 (fun e => by cases e; omega)).trans h.f, h.z.grown hg (fun e => by cases e; omega), h.a.grown hg (fun e => by cases e; omega), h.bl.grown hg h.bl.size (fun k hk => by cases hk; omega)⟩
theorem FS.turned {ft t : TypeId} {n : Nat} {cl : Value} {w : World} {R R2 : List (List Int)} {wr wr' : World} (h : FS ft t n cl w R wr) (hT : TabR wr' (w.heap.size + 1 + 1) t R2) (hg : wr.grownBy wr' (some (w.heap.size + 1 + 1))) : FS ft t n cl w R2 wr' :=
 ⟨(hg.block _ (Array.getElem?_eq_some_iff.1 h.f).1 (fun e => by have := Option.some.inj e; omega)).trans h.f, h.z.grown hg (fun e => by have := Option.some.inj e; omega), hT, h.bl.grown hg h.bl.size (fun k hk => by cases hk; omega)⟩
def cellRoom9 : Option Value → Nat
 | some (.int _ x) => (127 - x).toNat
 | _ => 0
def roomB (w : World) (G n : Nat) : Nat := ((List.range n).map (fun k => cellRoom9 (w.cell? ⟨G, k, none⟩))).sum
theorem room_append (xs ys : List Int) : room (xs ++ ys) = room xs + room ys := by simp [room]
theorem jz8 : ∀ gs : List (List Int), room gs.flatten = jq2 gs
 | [] => rfl
 | g :: gs => by
  rw [List.flatten_cons, room_append, jz8 gs]
  simp [jq2]
theorem qb1 {w : World} {G n : Nat} {t : TypeId} {gs : List (List Int)} (h : TabR w G t gs) (hr : Rows7 n gs) : roomB w G (7 * n) = jq2 gs := by
 rw [← jz8, ← hr.flat]
 have hc := fun i => (h.cell i).1
 revert hc
 generalize gs.flatten = L
 intro hc
 unfold roomB room
 congr 1
 refine List.ext_getElem (by simp) (fun i h1 h2 => ?_)
 simp at h1
 rw [List.getElem_map, List.getElem_map, List.getElem_range, hc i]
 simp [ints, h1, cellRoom9]
theorem zero_good (n : Nat) : GoodN n (List.replicate n zero7) := fun i hi => by
 have e : (List.replicate n zero7).getD i [] = zero7 := by simp [List.getD, hi]
 rw [e]; exact jk6
theorem zero_under (n : Nat) (C : List (List Int)) : SubN n (List.replicate n zero7) C := fun i hi => by
 have e : (List.replicate n zero7).getD i [] = zero7 := by simp [List.getD, hi]
 rw [e]; exact jr2 _
theorem fix12 (ss : List Stm) (E : Nat → List Int) (ES : List (List Int)) (v : Value) (P Q : Nat) (w : World) (hp : je7 ss = true) (hE : ∀ i, i < ss.length → Smalls (E i) ∧ ES.getD i [] = E i) (hES : Rows7 12 ES) (hv : jk5 w v ss) (hP : w.heap[P]? = some (.cells #[v] 63 (0, 0))) (hQ : TabR w Q 128 ES) :
 Calls Tryz.prog 99 #[.agg #[Value.func (.func 95) #[] #[.pointer (some ⟨P, 0, none⟩), .pointer (some ⟨Q, 0, none⟩)]]] w fun e w' => ∃ R, e = .returned (tabR R) ∧ Rows7 12 R ∧ IsInner E ss R ∧ Below w.heap.size w w' := by
 have hz : ∀ w, (zeroValue 128).run Tryz.prog w = .ok (.agg (ints (List.replicate 12 zero7).flatten).toArray) w := isTab12.zero
 obtain ⟨zs, hzs⟩ : ∃ zs, ints (List.replicate 12 zero7).flatten = zs := ⟨_, rfl⟩
 rw [hzs] at hz
 have HZ : Hid _ := hzs
 obtain ⟨cl, hcl⟩ : ∃ cl, Value.func (.func 95) #[] #[.pointer (some ⟨P, 0, none⟩), .pointer (some ⟨Q, 0, none⟩)] = cl := ⟨_, rfl⟩
 obtain ⟨hpos, h12, _⟩ := jh0 hp
 have HCL : Hid _ := hcl
 rw [hcl]
 clear hcl
 go_enter Tryz.func99, Tryz.ntmps99
 go_wp2_with fail
 obtain ⟨W, hW⟩ : ∃ W, ((w.alloc (.cells #[cl] 138)).alloc (.cells zs.toArray 128)).alloc (.cells zs.toArray 128) = W := ⟨_, rfl⟩
 have S0 : FS 138 128 12 cl w (List.replicate 12 zero7) W := by
  refine ⟨?_, ?_, ?_, by rw [← hW]; go_grown⟩
  · rw [← hW, ja2 (by simp; omega), ja2 (by simp)]; exact heap_alloc_new w _
  · unfold TabR
    rw [← hW, ja2 (by simp), hzs]
    have := heap_alloc_new (w.alloc (.cells #[cl] 138)) (.cells zs.toArray 128)
    simpa using this
  · unfold TabR
    rw [← hW, hzs]
    have := heap_alloc_new ((w.alloc (.cells #[cl] 138)).alloc (.cells zs.toArray 128)) (.cells zs.toArray 128)
    simpa using this
 rw [hW]
 clear hW hzs
 go_loopw [4] (fun _ wr => ∃ R, FS 138 128 12 cl w R wr ∧ Rows7 12 R ∧ (GoodN 12 R ∧ Und E ss R)) (fun _ wr => roomB wr (w.heap.size + 1 + 1) (7 * 12))
 case atStart => exact ⟨_, S0, Rows7.zero 12, zero_good 12, fun C hC hc i hi => zero_under 12 C i (by omega)⟩
 case round =>
  obtain ⟨R, S, hR, I⟩ := hrel
  clear S0
  obtain ⟨cf, _⟩ := ja4 S.f
  have HM0 : Hid (roomB wr (w.heap.size + 1 + 1) (7 * 12) = jq2 R) := qb1 S.a hR
  have hcall := pass1 ss E ES R v P Q wr hp hE hES hR I.1 (jd0 hv S.bl) ((S.bl.block P (Array.getElem?_eq_some_iff.1 hP).1).trans hP) (hQ.below S.bl)
  have HS : Hid _ := S
  have HR : Hid (Rows7 12 R) := hR
  have HI : Hid _ := I
  have s0 := S.a.lt
  obtain rfl := HCL.out
  clear S hR I
  go_wp2_with (first
   | refine jl7 isTab12 rfl (.tmp 3) rfl (w.heap.size + 1 + 1) R rfl HR.out HS.out.a ?_)
  refine hcall.mono ?_
  rintro e w2 ⟨R2, rfl, hI2, b2⟩
  clear hcall
  have S2 := HS.out.below b2
  have HS2 : Hid _ := S2
  have HR2 : Hid (Rows7 12 R2) := hI2.rows
  have HI2 : Hid (PassI E ss R ss.length R2) := hI2
  obtain ⟨w3, hw3⟩ : ∃ z, w2.alloc (.cells zs.toArray 128) = z := ⟨_, rfl⟩
  have T3 : TabR w3 w2.heap.size 128 (List.replicate 12 zero7) := by rw [← hw3, ← HZ.out]; exact qa6 w2 _ _
  have B3 : Below w2.heap.size w2 w3 := by rw [← hw3]; go_grown
  have S3 := S2.below B3
  have HS3 : Hid _ := S3
  have HT3 : Hid (TabR w3 w2.heap.size 128 (List.replicate 12 zero7)) := T3
  have HW3 : Hid _ := hw3
  have s2 := S2.a.lt
  clear S2 S3 T3 hI2 cf hw3
  obtain ⟨b, hb⟩ : ∃ b, decide (R2 = R) = b := ⟨_, rfl⟩
  have HE : Hid (decide (R2 = R) = b) := hb
  clear hb
  go_wp2_with (first
   | (rw [HW3.out]; (with_reducible refine jd3 (x := .tmp 4) (y := .tmp 8) isTab12 w2.heap.size (List.replicate 12 zero7) R2 ?hx ?hy (Rows7.zero 12) HR2.out HT3.out ?_); (case hx => rfl); (case hy => rfl); intro w4 T4 g4; have S4 : Hid _ := FS.grown HS3.out g4 (by omega); have HT4 : Hid (TabR w4 w2.heap.size 128 R2) := T4; clear T4 g4)
   | ((with_reducible refine jd9 (x := .tmp 4) isTab12 w2.heap.size R2 ?hx HR2.out HT4.out ?_); (case hx => rfl))
   | ((with_reducible refine jd9 (x := .tmp 3) isTab12 (w.heap.size + 1 + 1) R ?hx HR.out S4.out.a ?_); (case hx => rfl))
   | ((with_reducible refine jt0 isTab12 R2 R b ?h1 ?h2 HR2.out HR.out HE.out ?_); (case h1 => rfl); (case h2 => rfl); refine jl5 ?_))
  unfold Stop
  clear HT3 HW3 HS3 HS2 hz
  cases b with
  | true =>
   have hq : R2 = R := of_decide_eq_true HE.out
   have HQ : Hid (R2 = R) := hq
   clear hq
   clear HE
   go_wp2_with (first
    | ((with_reducible refine jd9 (x := .tmp 3) isTab12 (w.heap.size + 1 + 1) R ?hx HR.out S4.out.a ?_); (case hx => rfl))
    | ((with_reducible refine jd3 (x := .tmp 2) (y := .tmp 12) isTab12 (w.heap.size + 1) (List.replicate 12 zero7) R ?hx ?hy (Rows7.zero 12) HR.out S4.out.z ?_); (case hx => rfl); (case hy => rfl); intro w5 T5 g5; have HT5 : Hid (TabR w5 (w.heap.size + 1) 128 R) := T5; have G5 : Hid _ := g5; clear T5 g5; refine jl5 ?_))
   unfold Stop
   go_wp2
   refine jh5 isTab12 rfl (w.heap.size + 1) R rfl HR.out HT5.out rfl ⟨R, rfl, HR.out, ?_, ?_⟩
   · have hI2 := HI2.out
     rw [HQ.out] at hI2
     exact ⟨fun i hi => HI.out.1 i (by omega), ⟨hI2.unit, fun i hi x hx => hI2.done i hi hi x hx⟩, HI.out.2⟩
   · exact S4.out.bl.grown G5.out S4.out.bl.size (fun k hk => by cases hk; omega)
  | false =>
   have hq : ¬ R2 = R := of_decide_eq_false HE.out
   have HQ : Hid (¬ R2 = R) := hq
   clear hq
   clear HE
   go_wp2_with (first
    | ((with_reducible refine jd9 (x := .tmp 4) isTab12 w2.heap.size R2 ?hx HR2.out HT4.out ?_); (case hx => rfl))
    | ((with_reducible refine jd3 (x := .tmp 3) (y := .tmp 13) isTab12 (w.heap.size + 1 + 1) R R2 ?hx ?hy HR.out HR2.out S4.out.a ?_); (case hx => rfl); (case hy => rfl); intro w5 T5 g5; have HT5 : Hid (TabR w5 (w.heap.size + 1 + 1) 128 R2) := T5; have G5 : Hid _ := g5; clear T5 g5; refine jl5 ?_))
   unfold Stop
   go_wp2
   go_roundw
   case rel => exact ⟨R2, FS.turned S4.out HT5.out G5.out, HR2.out, HI2.out.good, fun C hC hc => HI2.out.und C hC hc (HI.out.2 C hC hc)⟩
   case measure =>
    rw [HM0.out, qb1 HT5.out HR2.out]
    refine jv7 (by rw [HR.out.1, HR2.out.1]) (by rw [HR.out.1]; exact HI.out.1) (by rw [HR.out.1]; exact HI2.out.good) (by rw [HR.out.1]; exact HI2.out.sub) (fun e => HQ.out e.symm)
end Go.Proofs.YtldagpfeaabcdaaGreatDoor
namespace Go.Proofs.YtldagpfeaabcdaaGreatDoor
open Go.RowKit
set_option linter.unusedVariables false
set_option linter.unusedSimpArgs false
set_option maxHeartbeats 4000000
set_option maxRecDepth 20000
structure QS (v : Value) (T : List (List Int)) (w : World) (ES : List (List Int)) (wr : World) : Prop where
 p : wr.heap[w.heap.size]? = some (.cells #[v] 63 (0, 0))
 t : TabR wr (w.heap.size + 1) 69 T
 z : TabR wr (w.heap.size + 1 + 1) 128 (List.replicate 12 zero7)
 e : TabR wr (w.heap.size + 1 + 1 + 1) 128 ES
 bl : Below w.heap.size w wr
theorem QS.below {v : Value} {T : List (List Int)} {w : World} {ES : List (List Int)} {wr wr' : World} (h : QS v T w ES wr) (hb : Below wr.heap.size wr wr') : QS v T w ES wr' :=
 ⟨(hb.block _ (Array.getElem?_eq_some_iff.1 h.p).1).trans h.p, h.t.below hb, h.z.below hb, h.e.below hb, h.bl.trans (hb.mono h.bl.size)⟩
theorem QS.turned {v : Value} {T : List (List Int)} {w : World} {ES ES' : List (List Int)} {wr wr' : World} (h : QS v T w ES wr) (hT : TabR wr' (w.heap.size + 1 + 1 + 1) 128 ES') (hg : wr.grownBy wr' (some (w.heap.size + 1 + 1 + 1))) : QS v T w ES' wr' :=
 ⟨(hg.block _ (Array.getElem?_eq_some_iff.1 h.p).1 (fun e => by have := Option.some.inj e; omega)).trans h.p, h.t.grown hg (fun e => by have := Option.some.inj e; omega), h.z.grown hg (fun e => by have := Option.some.inj e; omega), hT, h.bl.grown hg h.bl.size (fun k hk => by cases hk; omega)⟩
theorem jw8 (ss : List Stm) (c : Int) (T : List (List Int)) (n : Nat) (v : Value) (w : World) (hc : c = 1 ∨ c = 2) (hn : n ≤ 4) (hp : je7 ss = true) (hs : ∀ s ∈ ss, CanS n s) (hR : Rows7 4 T) (hT : GoodN n T) (hv : jk5 w v ss) :
 Calls Tryz.prog 89 #[.agg #[v], .int .i64 c, tabR T] w fun e w' => ∃ R, e = .returned (tabR R) ∧ Rows7 12 R ∧ IsInner (effN c T ss) ss R ∧ Below w.heap.size w w' := by
 obtain ⟨hpos, h12, _⟩ := jh0 hp
 have hz : ∀ w, (zeroValue 128).run Tryz.prog w = .ok (.agg (ints (List.replicate 12 zero7).flatten).toArray) w := isTab12.zero
 obtain ⟨zs, hzs⟩ : ∃ zs, ints (List.replicate 12 zero7).flatten = zs := ⟨_, rfl⟩
 rw [hzs] at hz
 obtain ⟨ts, hts⟩ : ∃ ts, ints T.flatten = ts := ⟨_, rfl⟩
 have hv3 := hv
 obtain ⟨ao, cap, rfl, hcell⟩ := hv
 unfold tabR
 rw [hts]
 go_enter Tryz.func89, Tryz.ntmps89
 go_wp2_with fail
 obtain ⟨W, hW⟩ : ∃ W, (((w.alloc (.cells #[.slice ao ss.length cap] 63)).alloc (.cells ts.toArray 69)).alloc (.cells zs.toArray 128)).alloc (.cells zs.toArray 128) = W := ⟨_, rfl⟩
 have S0 : QS (.slice ao ss.length cap) T w (List.replicate 12 zero7) W := by
  have a1 : (w.alloc (.cells #[.slice ao ss.length cap] 63)).heap.size = w.heap.size + 1 := by simp
  have a2 : ((w.alloc (.cells #[.slice ao ss.length cap] 63)).alloc (.cells ts.toArray 69)).heap.size = w.heap.size + 1 + 1 := by simp
  have a3 : (((w.alloc (.cells #[.slice ao ss.length cap] 63)).alloc (.cells ts.toArray 69)).alloc (.cells zs.toArray 128)).heap.size = w.heap.size + 1 + 1 + 1 := by simp
  refine ⟨?_, ?_, ?_, ?_, by rw [← hW]; go_grown⟩
  · rw [← hW, ja2 (by omega), ja2 (by omega), ja2 (by omega)]; exact heap_alloc_new w _
  · unfold TabR
    rw [← hW, ja2 (by omega), ja2 (by omega), hts]
    have := heap_alloc_new (w.alloc (.cells #[.slice ao ss.length cap] 63)) (.cells ts.toArray 69)
    rwa [a1] at this
  · unfold TabR
    rw [← hW, ja2 (by omega), hzs]
    have := heap_alloc_new ((w.alloc (.cells #[.slice ao ss.length cap] 63)).alloc (.cells ts.toArray 69)) (.cells zs.toArray 128)
    rwa [a2] at this
  · unfold TabR
    rw [← hW, hzs]
    have := heap_alloc_new (((w.alloc (.cells #[.slice ao ss.length cap] 63)).alloc (.cells ts.toArray 69)).alloc (.cells zs.toArray 128)) (.cells zs.toArray 128)
    rwa [a3] at this
 rw [hW]
 clear hW hzs hts hz
 go_loopw [14] (fun iv wr => ∃ (i : Nat) (ES : List (List Int)), i ≤ ss.length ∧ iv = .int .i64 i ∧ QS (.slice ao ss.length cap) T w ES wr ∧ Rows7 12 ES ∧ ∀ j, j < i → ES.getD j [] = effN c T ss j) (fun iv _ => ss.length - (intOf iv).toNat)
 case atStart => exact ⟨0, _, Nat.zero_le _, rfl, S0, Rows7.zero 12, fun j h => absurd h (by omega)⟩
 case round =>
  obtain ⟨i, ES, hi, rfl, S, hES, hdone⟩ := hrel
  clear S0
  have HS : Hid _ := S
  have HES : Hid (Rows7 12 ES) := hES
  have HD : Hid _ := hdone
  by_cases hlt : i < ss.length
  · have hlt' : (i : Int) < (ss.length : Int) := by omega
    have hi12 : i < 12 := by omega
    have hi12' : (i : Int) < 12 := by omega
    obtain ⟨gs, off, rfl, k0, k1, k2⟩ := hcell i ss[i] (by simp [hlt])
    have M0 := S.bl
    have k0 := (M0.cell (World.block_lt_of_cell? w _ k0)).trans k0
    have k1 := (M0.cell (World.block_lt_of_cell? w _ k1)).trans k1
    have k2 := (M0.cell (World.block_lt_of_cell? w _ k2)).trans k2
    have hcan := hs _ (List.getElem_mem hlt)
    have hef := fun W => effectWith c T n ss[i] W hc hn hcan hR hT
    have heS := jt9 hc hT hcan
    have Hen : Hid (effN c T ss i = effL c T ss[i]) := jv1 hlt
    generalize effL c T ss[i] = ei at *
    have He7 : Hid (ei.length = 7) := heS.1
    clear hdone hcan S
    go_wp2_with (first
     | ((with_reducible refine jd9 (x := .tmp 5) isTab4 (w.heap.size + 1) T ?hx hR ?hT ?_); (case hx => rfl); (case hT => exact (HS.out.below (by go_grown)).t)))
    go_at_call 94
    refine (hef _).mono ?_
    rintro e w2 ⟨rfl, b2⟩
    clear hef
    have B2 : Below wr.heap.size wr w2 := Below.trans (by go_grown) (b2.mono (by simp))
    have S2 : Hid _ := HS.out.below B2
    clear b2 B2
    go_wp2_with (first
     | ((with_reducible refine qa0 (x := .tmp 24) (y := .tmp 23) (w.heap.size + 1 + 1 + 1) i ES ei ?hx ?hy He7.out HES.out hi12 S2.out.e ?_); (case hx => rfl); (case hy => rfl); intro w3 T3 g3; have S3 : Hid _ := QS.turned S2.out T3 g3; clear T3 g3; refine jl5 ?_))
    unfold Stop
    go_wp2
    go_roundw
    case rel =>
     have hil : i < ES.length := by rw [HES.out.1]; exact hi12
     refine ⟨i + 1, _, by omega, by go_num, S3.out, HES.out.set heS.1, fun j hj => ?_⟩
     rw [ji4 hil]
     split
     · rename_i e; subst e; exact Hen.out.symm
     · exact HD.out j (by omega)
    case measure => simp [intOf]; omega
  · have hii : i = ss.length := by omega
    subst hii
    have hfix := fun W (hW : Below wr.heap.size wr W) => fix12 ss (effN c T ss) ES (.slice ao ss.length cap) w.heap.size (w.heap.size + 1 + 1 + 1) W hp (fun j hj => ⟨by rw [jv1 hj]; exact jt9 hc hT (hs _ (List.getElem_mem hj)), HD.out j hj⟩) HES.out (jd0 hv3 (HS.out.bl.trans (hW.mono HS.out.bl.size))) (HS.out.below hW).p (HS.out.below hW).e
    clear S hES hdone
    go_wp2_with fail
    go_at_call 99
    refine (hfix _ (by go_grown)).mono ?_
    rintro e w2 ⟨R, rfl, hR2, hI2, b2⟩
    clear hfix
    have B2 : Below wr.heap.size wr w2 := Below.trans (by go_grown) (b2.mono (by simp))
    have S2 : Hid _ := HS.out.below B2
    have HR2 : Hid (Rows7 12 R) := hR2
    have HI2 : Hid _ := hI2
    clear b2 B2 hR2 hI2
    go_wp2_with (first
     | ((with_reducible refine jd3 (x := .tmp 6) (y := .tmp 29) isTab12 (w.heap.size + 1 + 1) (List.replicate 12 zero7) R ?hx ?hy (Rows7.zero 12) HR2.out S2.out.z ?_); (case hx => rfl); (case hy => rfl); intro w5 T5 g5; have HT5 : Hid (TabR w5 (w.heap.size + 1 + 1) 128 R) := T5; have G5 : Hid _ := g5; clear T5 g5; refine jl5 ?_))
    unfold Stop
    go_wp2
    refine jh5 isTab12 rfl (w.heap.size + 1 + 1) R rfl HR2.out HT5.out rfl ⟨R, rfl, HR2.out, HI2.out, ?_⟩
    exact S2.out.bl.grown G5.out S2.out.bl.size (fun k hk => by cases hk; omega)
end Go.Proofs.YtldagpfeaabcdaaGreatDoor
