/-
  Chapter 10, the program's side: relationsWith.
-/
import Derived.Test.YtnjbihfceckpfaaImplFix
namespace Go.Proofs.Ytnjbihfceckpfaa
open Go.RowKit
set_option linter.unusedVariables false
set_option linter.unusedSimpArgs false
set_option maxHeartbeats 4000000
set_option maxRecDepth 20000

/-- What relationsWith has in memory. -/
structure QS (v : Value) (T : List (List Int)) (w : World) (ES : List (List Int)) (wr : World) : Prop where
  p : wr.heap[w.heap.size]? = some (.cells #[v] 81 (0, 0))
  t : TabR wr (w.heap.size + 1) 88 T
  z : TabR wr (w.heap.size + 1 + 1) 66 (List.replicate 12 zero7)
  e : TabR wr (w.heap.size + 1 + 1 + 1) 66 ES
  bl : Below w.heap.size w wr

theorem QS.below {v : Value} {T : List (List Int)} {w : World} {ES : List (List Int)} {wr wr' : World} (h : QS v T w ES wr) (hb : Below wr.heap.size wr wr') : QS v T w ES wr' :=
  ⟨(hb.block _ (Array.getElem?_eq_some_iff.1 h.p).1).trans h.p, h.t.below hb, h.z.below hb, h.e.below hb, h.bl.trans (hb.mono h.bl.size)⟩

theorem QS.turned {v : Value} {T : List (List Int)} {w : World} {ES ES' : List (List Int)} {wr wr' : World} (h : QS v T w ES wr) (hT : TabR wr' (w.heap.size + 1 + 1 + 1) 66 ES') (hg : wr.grownBy wr' (some (w.heap.size + 1 + 1 + 1))) : QS v T w ES' wr' :=
  ⟨(hg.block _ (Array.getElem?_eq_some_iff.1 h.p).1 (fun e => by have := Option.some.inj e; omega)).trans h.p, h.t.grown hg (fun e => by have := Option.some.inj e; omega), h.z.grown hg (fun e => by have := Option.some.inj e; omega), hT, h.bl.grown hg h.bl.size (fun k hk => by cases hk; omega)⟩

theorem relationsWith (ss : List Stm) (c : Int) (T : List (List Int)) (n : Nat) (v : Value) (w : World) (hc : c = 1 ∨ c = 2) (hn : n ≤ 4) (hp : procOk ss = true) (hs : ∀ s ∈ ss, CanS n s) (hR : Rows7 4 T) (hT : GoodN n T) (hv : Reads3 w v ss) :
    Calls Try.prog 117 #[.agg #[v], .int .i64 c, tabR T] w fun e w' => ∃ R, e = .returned (tabR R) ∧ Rows7 12 R ∧ IsInner (effN c T ss) ss R ∧ Below w.heap.size w w' := by
  obtain ⟨hpos, h12, _⟩ := procOk_parts hp
  have hz : ∀ w, (zeroValue 66).run Try.prog w = .ok (.agg (ints (List.replicate 12 zero7).flatten).toArray) w := isTab12.zero
  obtain ⟨zs, hzs⟩ : ∃ zs, ints (List.replicate 12 zero7).flatten = zs := ⟨_, rfl⟩
  rw [hzs] at hz
  obtain ⟨ts, hts⟩ : ∃ ts, ints T.flatten = ts := ⟨_, rfl⟩
  have hv3 := hv
  obtain ⟨ao, cap, rfl, hcell⟩ := hv
  unfold tabR
  rw [hts]
  go_enter Try.func117, Try.ntmps117
  go_wp2_with fail
  obtain ⟨W, hW⟩ : ∃ W, (((w.alloc (.cells #[.slice ao ss.length cap] 81)).alloc (.cells ts.toArray 88)).alloc (.cells zs.toArray 66)).alloc (.cells zs.toArray 66) = W := ⟨_, rfl⟩
  have S0 : QS (.slice ao ss.length cap) T w (List.replicate 12 zero7) W := by
    have a1 : (w.alloc (.cells #[.slice ao ss.length cap] 81)).heap.size = w.heap.size + 1 := by simp
    have a2 : ((w.alloc (.cells #[.slice ao ss.length cap] 81)).alloc (.cells ts.toArray 88)).heap.size = w.heap.size + 1 + 1 := by simp
    have a3 : (((w.alloc (.cells #[.slice ao ss.length cap] 81)).alloc (.cells ts.toArray 88)).alloc (.cells zs.toArray 66)).heap.size = w.heap.size + 1 + 1 + 1 := by simp
    refine ⟨?_, ?_, ?_, ?_, by rw [← hW]; go_grown⟩
    · rw [← hW, old_block (by omega), old_block (by omega), old_block (by omega)]; exact heap_alloc_new w _
    · unfold TabR
      rw [← hW, old_block (by omega), old_block (by omega), hts]
      have := heap_alloc_new (w.alloc (.cells #[.slice ao ss.length cap] 81)) (.cells ts.toArray 88)
      rwa [a1] at this
    · unfold TabR
      rw [← hW, old_block (by omega), hzs]
      have := heap_alloc_new ((w.alloc (.cells #[.slice ao ss.length cap] 81)).alloc (.cells ts.toArray 88)) (.cells zs.toArray 66)
      rwa [a2] at this
    · unfold TabR
      rw [← hW, hzs]
      have := heap_alloc_new (((w.alloc (.cells #[.slice ao ss.length cap] 81)).alloc (.cells ts.toArray 88)).alloc (.cells zs.toArray 66)) (.cells zs.toArray 66)
      rwa [a3] at this
  rw [hW]
  clear hW hzs hts hz
  go_loopw [14] (fun iv wr => ∃ (i : Nat) (ES : List (List Int)), i ≤ ss.length ∧ iv = .int .i64 i ∧ QS (.slice ao ss.length cap) T w ES wr ∧ Rows7 12 ES ∧ ∀ j, j < i → ES.getD j [] = effN c T ss j) (fun iv _ => ss.length - (intOf iv).toNat)
  case atStart => exact ⟨0, _, Nat.zero_le _, rfl, S0, Rows7.zero 12, fun j h => absurd h (by omega)⟩
  case round =>
    obtain ⟨i, ES, hi, rfl, S, hES, hdone⟩ := hrel
    clear S0
    have HS : Hid _ := S
    have HES : Hid (Rows7 12 ES) := hES
    have HD : Hid _ := hdone
    by_cases hlt : i < ss.length
    · have hlt' : (i : Int) < (ss.length : Int) := by omega
      have hi12 : i < 12 := by omega
      have hi12' : (i : Int) < 12 := by omega
      obtain ⟨gs, off, rfl, k0, k1, k2⟩ := hcell i ss[i] (by simp [hlt])
      have M0 := S.bl
      have k0 := (M0.cell (World.block_lt_of_cell? w _ k0)).trans k0
      have k1 := (M0.cell (World.block_lt_of_cell? w _ k1)).trans k1
      have k2 := (M0.cell (World.block_lt_of_cell? w _ k2)).trans k2
      have hcan := hs _ (List.getElem_mem hlt)
      have hef := fun W => effectWith c T n ss[i] W hc hn hcan hR hT
      have heS := effL_smalls hc hT hcan
      have Hen : Hid (effN c T ss i = effL c T ss[i]) := effN_eq hlt
      generalize effL c T ss[i] = ei at *
      have He7 : Hid (ei.length = 7) := heS.1
      clear hdone hcan S
      go_wp2_with (first
        | ((with_reducible refine wpList_loadTabL (x := .tmp 5) isTab4 (w.heap.size + 1) T ?hx hR ?hT ?_); (case hx => rfl); (case hT => exact (HS.out.below (by go_grown)).t)))
      go_at_call 140
      refine (hef _).mono ?_
      rintro e w2 ⟨rfl, b2⟩
      clear hef
      have B2 : Below wr.heap.size wr w2 := Below.trans (by go_grown) (b2.mono (by simp))
      have S2 : Hid _ := HS.out.below B2
      clear b2 B2
      go_wp2_with (first
        | ((with_reducible refine wpList_storeRowL (x := .tmp 24) (y := .tmp 23) (w.heap.size + 1 + 1 + 1) i ES ei ?hx ?hy He7.out HES.out hi12 S2.out.e ?_); (case hx => rfl); (case hy => rfl); intro w3 T3 g3; have S3 : Hid _ := QS.turned S2.out T3 g3; clear T3 g3; refine stop_of ?_))
      unfold Stop
      go_wp2
      go_roundw
      case rel =>
        have hil : i < ES.length := by rw [HES.out.1]; exact hi12
        refine ⟨i + 1, _, by omega, by go_num, S3.out, HES.out.set heS.1, fun j hj => ?_⟩
        rw [getD_set hil]
        split
        · rename_i e; subst e; exact Hen.out.symm
        · exact HD.out j (by omega)
      case measure => simp [intOf]; omega
    · have hii : i = ss.length := by omega
      subst hii
      have hfix := fun W (hW : Below wr.heap.size wr W) => fix12 ss (effN c T ss) ES (.slice ao ss.length cap) w.heap.size (w.heap.size + 1 + 1 + 1) W hp (fun j hj => ⟨by rw [effN_eq hj]; exact effL_smalls hc hT (hs _ (List.getElem_mem hj)), HD.out j hj⟩) HES.out (reads3_below hv3 (HS.out.bl.trans (hW.mono HS.out.bl.size))) (HS.out.below hW).p (HS.out.below hW).e
      clear S hES hdone
      go_wp2_with fail
      go_at_call 144
      refine (hfix _ (by go_grown)).mono ?_
      rintro e w2 ⟨R, rfl, hR2, hI2, b2⟩
      clear hfix
      have B2 : Below wr.heap.size wr w2 := Below.trans (by go_grown) (b2.mono (by simp))
      have S2 : Hid _ := HS.out.below B2
      have HR2 : Hid (Rows7 12 R) := hR2
      have HI2 : Hid _ := hI2
      clear b2 B2 hR2 hI2
      go_wp2_with (first
        | ((with_reducible refine wpList_storeTabL (x := .tmp 6) (y := .tmp 29) isTab12 (w.heap.size + 1 + 1) (List.replicate 12 zero7) R ?hx ?hy (Rows7.zero 12) HR2.out S2.out.z ?_); (case hx => rfl); (case hy => rfl); intro w5 T5 g5; have HT5 : Hid (TabR w5 (w.heap.size + 1 + 1) 66 R) := T5; have G5 : Hid _ := g5; clear T5 g5; refine stop_of ?_))
      unfold Stop
      go_wp2
      refine bodyPost_tabR isTab12 rfl (w.heap.size + 1 + 1) R rfl HR2.out HT5.out rfl ⟨R, rfl, HR2.out, HI2.out, ?_⟩
      exact S2.out.bl.grown G5.out S2.out.bl.size (fun k hk => by cases hk; omega)

end Go.Proofs.Ytnjbihfceckpfaa
