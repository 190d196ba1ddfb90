/-
 Put together out of: LikeLists, LikePl, OpenCode, FnKit.
-/
import Derived.Test.YtdkdhjhhbkcciaaGreatG20ImplTop
import Derived.Test.YtdkdhjhhbkcciaaGreatG36IntLaws
import Derived.Deep.RegionHeld3
import Derived.Test.YtdkdhjhhbkcciaaGreatG21PlOwn
import Derived.BigRegion
import Derived.Test.YtdkdhjhhbkcciaaGreatG08Progs
import Derived.WalkLawsBesides
import Derived.Test.YtdkdhjhhbkcciaaGreatG00Put
namespace Go.Proofs.YtdkdhjhhbkcciaaGreat
open Go.RowKit
set_option linter.unusedVariables false
set_option linter.unusedSimpArgs false
set_option maxHeartbeats 2000000
theorem likeLists (xss : List (List Int)) (v u : Value) (w : World) (hl : xss.length ≤ maxLen) (hx : ∀ xs ∈ xss, xs.length ≤ maxLen) (hv : ReadsSS w v xss) (hu : ReadsSS w u xss) :
 Calls Tryz.prog 9 #[v, u] w fun e w' => e = .returned (.bool true) ∧ Below w.heap.size w w' := by
 unfold maxLen at hl
 obtain ⟨ao, cap, rfl, hc⟩ := hv
 obtain ⟨bo, cap', rfl, hd⟩ := hu
 go_enter Tryz.func9, Tryz.ntmps9
 go_wp2
 go_loopw [5] (fun i wr => ∃ k : Nat, k ≤ xss.length ∧ i = .int .i64 k ∧ Below w.heap.size w wr) (fun i _ => xss.length - (intOf i).toNat)
 case atStart => exact ⟨0, Nat.zero_le _, rfl, Below.refl _ _⟩
 case round =>
  obtain ⟨k, hk, rfl, hb⟩ := hrel
  by_cases hlt : k < xss.length
  · obtain ⟨g, off, p, rfl, p0, rp⟩ := hc k xss[k] (by simp [hlt])
    obtain ⟨g', off', q, rfl, q0, rq⟩ := hd k xss[k] (by simp [hlt])
    have hxl := hx xss[k] (List.getElem_mem hlt)
    have pB := World.block_lt_of_cell? w _ p0
    have qB := World.block_lt_of_cell? w _ q0
    have sz := hb.size
    have p1 := (hb.cell pB).trans p0
    have q1 := (hb.cell qB).trans q0
    have pB' : g < wr.heap.size := by simp at pB; omega
    have qB' : g' < wr.heap.size := by simp at qB; omega
    have hlt' : (k : Int) < (xss.length : Int) := by omega
    have hk0 : (0 : Int) ≤ (k : Int) := by omega
    have he : ∀ W, Below wr.heap.size wr W → _ := fun W hW => likeInts xss[k] p q W hxl (reads_below (reads_below rp hb) hW) (reads_below (reads_below rq hb) hW)
    obtain ⟨pa, pn, pc, rfl⟩ : ∃ a n c, p = .slice a n c := by obtain ⟨a, c, rfl, _⟩ := rp; exact ⟨_, _, _, rfl⟩
    obtain ⟨qa, qn, qc, rfl⟩ : ∃ a n c, q = .slice a n c := by obtain ⟨a, c, rfl, _⟩ := rq; exact ⟨_, _, _, rfl⟩
    clear hc hd rp rq p0 q0
    go_wp2_with fail
    go_region_held3 (fun w' => w'.cell? ⟨g, off + k, none⟩ = some (.slice pa pn pc) ∧ w'.cell? ⟨g', off' + k, none⟩ = some (.slice qa qn qc)) (first | exact ⟨p1, q1⟩ | exact ⟨(hc4 _ _ pB').trans p1, (hc4 _ _ qB').trans q1⟩) (first
     | (go_at_call 15; refine (he _ (by go_grown)).mono ?_; rintro e w4 ⟨rfl, b4⟩; have M4 : Below wr.heap.size wr w4 := Below.trans (by go_grown) b4; obtain ⟨hc4, hf4⟩ := bcell M4))
    all_goals
     go_wp2
     go_roundw
     case rel => exact ⟨k + 1, by omega, by go_num, hb.trans (M4.mono sz)⟩
     case measure => simp [intOf]; omega
  · go_wp2
    go_ret
    exact ⟨rfl, hb⟩
end Go.Proofs.YtdkdhjhhbkcciaaGreat
namespace Go.Proofs.YtdkdhjhhbkcciaaGreat
open Go.RowKit
set_option linter.unusedVariables false
set_option linter.unusedSimpArgs false
set_option maxHeartbeats 4000000
set_option maxRecDepth 20000
theorem likePlaces (n : Nat) (xs : List Int) (v u : Value) (w : World) (hx : xs.length = 2 * n) (hl : n ≤ 1000) (hv : Reads2 w v n (ints xs)) (hu : Reads2 w u n (ints xs)) :
 Calls Tryz.prog 13 #[v, u] w fun e w' => e = .returned (.bool true) ∧ Below w.heap.size w w' := by
 obtain ⟨ao, cap, rfl, hc⟩ := hv
 obtain ⟨bo, cap', rfl, hd⟩ := hu
 go_enter Tryz.func13, Tryz.ntmps13
 go_wp2_with fail
 go_loopw [5] (fun i wr => ∃ k : Nat, k ≤ n ∧ i = .int .i64 k ∧ Below w.heap.size w wr) (fun i _ => n - (intOf i).toNat)
 case atStart => exact ⟨0, Nat.zero_le _, rfl, Below.refl _ _⟩
 case round =>
  obtain ⟨k, hk, rfl, hb⟩ := hrel
  by_cases hlt : k < n
  · have k1 : k * 2 < xs.length := by omega
    have k2 : k * 2 + 1 < xs.length := by omega
    obtain ⟨g, off, rfl, h1⟩ := hc (k * 2) (.int .i64 xs[k * 2]) (by simp [ints, k1])
    obtain ⟨g9, off9, e9, h2⟩ := hc (k * 2 + 1) (.int .i64 xs[k * 2 + 1]) (by simp [ints, k2])
    cases e9
    obtain ⟨g', off', rfl, h3⟩ := hd (k * 2) (.int .i64 xs[k * 2]) (by simp [ints, k1])
    obtain ⟨g8, off8, e8, h4⟩ := hd (k * 2 + 1) (.int .i64 xs[k * 2 + 1]) (by simp [ints, k2])
    cases e8
    have h1 := (hb.cell (World.block_lt_of_cell? w _ h1)).trans h1
    have h2 := (hb.cell (World.block_lt_of_cell? w _ h2)).trans h2
    have h3 := (hb.cell (World.block_lt_of_cell? w _ h3)).trans h3
    have h4 := (hb.cell (World.block_lt_of_cell? w _ h4)).trans h4
    rw [← Nat.add_assoc] at h2 h4
    have hlt' : (k : Int) < (n : Int) := by omega
    have HB : Hid (Below w.heap.size w wr) := hb
    clear hc hd hb
    generalize xs[k * 2] = x at *
    generalize xs[k * 2 + 1] = y at *
    go_wp2_with fail
    go_region
    go_wp2_with fail
    go_roundw
    case rel => exact ⟨k + 1, by omega, by go_num, Below.drew HB.out⟩
    case measure => simp [intOf]; omega
  · go_wp2
    go_ret
    exact ⟨rfl, hb⟩
end Go.Proofs.YtdkdhjhhbkcciaaGreat
namespace Go.Proofs.YtdkdhjhhbkcciaaGreat
open Go.ChangeShapes Go.WideShapes Go.ChangeAt Go.RowKit
set_option linter.unusedVariables false
set_option maxHeartbeats 2000000
theorem lawBig (bs : List Int) (v : Value) (w : World) (hl : bs.length ≤ maxLen) (hv : Reads w v (bs.map (Value.int .u8))) :
 Calls Tryz.prog 4 #[v] w fun e w' => e = .returned (.bool (decide ((4096 : Int) < (bs.length : Int)))) ∧ w = w' := by
 obtain ⟨ao, cap, rfl, hc⟩ := hv
 simp only [List.length_map]
 go_enter Tryz.func4, Tryz.ntmps4
 go_wp2
 go_ret
 exact ⟨rfl, rfl⟩
theorem open_code {H : Type} {enc : TypeId × Value → H} {P : Program} {W : World} {base : Nat} {held : Bool} {t e : TypeId} {r : Reach} {b0 : Nat} {v : Value} {d : DataW H} {p : List MemPlace}
 (ht : P.underlying t = some (.slice e)) (he : P.underlying e = some (.int .u8)) (hc : P.cellsOf e = 1) (hv : Value.okWide P W r b0 t v) (h : DataW.Trod enc P W base (fun _ => true) held t v d p) :
 ∃ bs : List Int, Reads W v (bs.map (Value.int .u8)) ∧ bs.length ≤ maxLen ∧ ∀ x ∈ bs, 0 ≤ x ∧ x ≤ 255 := by
 obtain ⟨a0, len, cap, rfl⟩ := okWide_slice ht hv
 obtain ⟨fuel, hf⟩ := h
 rcases open_ints ht he hc hf with ⟨hcs, _⟩ | ⟨a, len', cap', zs, hcs, _, hl, hm, hz, _, hcell, hwz⟩
 · simp [Value.cells] at hcs
   obtain ⟨rfl, rfl, rfl⟩ := hcs
   exact ⟨[], ⟨none, 0, rfl, fun j x hx => by simp at hx⟩, by simp, by simp⟩
 · simp [Value.cells] at hcs
   obtain ⟨rfl, rfl, rfl⟩ := hcs
   simp only [if_true] at hz
   have hlen : (zs.take len).length = len := by simp; omega
   refine ⟨zs.take len, ⟨some a, cap, by rw [List.length_map, hlen], ?_⟩, by omega, fun x hx => ?_⟩
   · intro j x hx
     have hj : j < len := by
      rcases Nat.lt_or_ge j len with h | h
      · exact h
      · rw [List.getElem?_eq_none (by simp; omega)] at hx; simp at hx
     have hcj := hcell j (by omega)
     obtain ⟨b, off, spot⟩ := a
     have hspot : spot = none := by
      have h0 := hcell 0 (by omega)
      simpa [Addr.add] using World.cell?_spot h0
     subst hspot
     refine ⟨b, off, rfl, ?_⟩
     have hadd : (⟨b, off, none⟩ : Addr).add j = ⟨b, off + j, none⟩ := by unfold Addr.add; split <;> simp_all
     rw [hadd] at hcj
     rw [hcj]
     have hjs : j < zs.length := by omega
     simp [hj, List.getElem?_eq_getElem hjs] at hx
     rw [List.getD_eq_getElem?_getD, List.getElem?_eq_getElem hjs]
     simp [hx]
   · have := hwz x (List.mem_of_mem_take hx)
     simp only [Lit.wf, Bool.and_eq_true, decide_eq_true_eq] at this
     have h1 : IntKind.u8.min = 0 := by decide
     have h2 : IntKind.u8.max = 255 := by decide
     rw [h1, h2] at this
     exact this
theorem cellsByte : Tryz.prog.cellsOf 5 = 1 := by kernel_rfl
end Go.Proofs.YtdkdhjhhbkcciaaGreat
namespace Go.Proofs.YtdkdhjhhbkcciaaGreat
open Go.RowKit
theorem box_step {W W' : World} {b : Nat} {o : Obj} (h : W.heap[b]? = some o) (hb : Below W.heap.size W W') : W'.heap[b]? = some o :=
 (hb.block b (Array.getElem?_eq_some_iff.1 h).1).trans h
theorem low_step {w W W' : World} (h : Below w.heap.size w W) (hb : Below W.heap.size W W') : Below w.heap.size w W' := h.trans (hb.mono h.size)
theorem cell_ltK {W : World} {b o : Nat} {x : Value} (h : W.cell? ⟨b, o, none⟩ = some x) : b < W.heap.size := by
 unfold World.cell? at h
 cases e : W.heap[b]? with
 | none => simp [e] at h
 | some _ => exact (Array.getElem?_eq_some_iff.1 e).1
theorem cell_step {W W' : World} {b o : Nat} {x : Value} (h : W.cell? ⟨b, o, none⟩ = some x) (hb : Below W.heap.size W W') : W'.cell? ⟨b, o, none⟩ = some x := (hb.cell (cell_ltK h)).trans h
theorem drawn_lensK {ps : List (List Stm)} {L : List Nat} (h : ps.map List.length = L) (h5 : L.length ≤ 5) (h14 : ∀ n ∈ L, n ≤ 14) : ps.length ≤ maxLen ∧ ∀ p ∈ ps, p.length ≤ maxLen := by
 subst h
 refine ⟨by simp at h5; unfold maxLen; omega, fun p hp => ?_⟩
 have := h14 p.length (List.mem_map_of_mem hp)
 unfold maxLen
 omega
theorem three_inK {w : World} {b : Nat} {x0 x1 x2 : Value} {T : TypeId} (h : w.heap[b]? = some (.cells #[x0, x1, x2] T (0, 0))) :
 w.cell? ⟨b, 0, none⟩ = some x0 ∧ w.cell? ⟨b, 1, none⟩ = some x1 ∧ w.cell? ⟨b, 2, none⟩ = some x2 := by
 refine ⟨?_, ?_, ?_⟩ <;> simp [World.cell?, h]
theorem readsP_len {W : World} {a : Option Addr} {n c : Nat} {ps : List (List Stm)} (h : ReadsP W (.slice a n c) ps) : n = ps.length := by
 obtain ⟨_, _, e, _⟩ := h
 injection e
theorem readsP_some {W : World} {a : Option Addr} {n c : Nat} {ps : List (List Stm)} (h : ReadsP W (.slice a n c) ps) (h0 : 0 < ps.length) : ∃ g o, a = some ⟨g, o, none⟩ := by
 obtain ⟨_, _, e, hc⟩ := h
 injection e with e1 e2 e3
 subst e1
 obtain ⟨g, o, _, ha, _⟩ := hc 0 ps[0] (by simp [h0])
 exact ⟨g, o, ha⟩
theorem readsP_cell {W : World} {g o n c : Nat} {ps : List (List Stm)} (h : ReadsP W (.slice (some ⟨g, o, none⟩) n c) ps) {j : Nat} {p : List Stm} (hj : ps[j]? = some p) :
 ∃ x, W.cell? ⟨g, o + j, none⟩ = some x ∧ Reads3 W x p := by
 obtain ⟨_, _, e, hc⟩ := h
 injection e with e1 e2 e3
 subst e1
 obtain ⟨g', o', x, ha, h1, h2⟩ := hc j p hj
 injection ha with ha
 injection ha with a1 a2 a3
 subst a1
 subst a2
 exact ⟨x, h1, h2⟩
theorem reads3_form {W : World} {x : Value} {ss : List Stm} (h : Reads3 W x ss) : ∃ a c, x = .slice a ss.length c := by
 obtain ⟨a, c, e, _⟩ := h
 exact ⟨a, c, e⟩
theorem reads3_some {W : World} {a : Option Addr} {n c : Nat} {ss : List Stm} (h : Reads3 W (.slice a n c) ss) (h0 : 0 < ss.length) : ∃ g o, a = some ⟨g, o, none⟩ := by
 obtain ⟨_, _, e, hc⟩ := h
 injection e with e1 e2 e3
 subst e1
 obtain ⟨g, o, ha, _⟩ := hc 0 ss[0] (by simp [h0])
 exact ⟨g, o, ha⟩
theorem reads3_cell {W : World} {g o n c : Nat} {ss : List Stm} (h : Reads3 W (.slice (some ⟨g, o, none⟩) n c) ss) {j : Nat} {s : Stm} (hj : ss[j]? = some s) :
 W.cell? ⟨g, o + j * 3, none⟩ = some (.int .i64 s.k) ∧ W.cell? ⟨g, o + j * 3 + 1, none⟩ = some (.int .i64 s.x) ∧ W.cell? ⟨g, o + j * 3 + 2, none⟩ = some (.int .i64 s.y) := by
 obtain ⟨_, _, e, hc⟩ := h
 injection e with e1 e2 e3
 subst e1
 obtain ⟨g', o', ha, h1⟩ := hc j s hj
 injection ha with ha
 injection ha with a1 a2 a3
 subst a1
 subst a2
 exact h1
theorem reads_form {W : World} {x : Value} {xs : List Int} (h : Reads W x (ints xs)) : ∃ a c, x = .slice a xs.length c := by
 obtain ⟨a, c, e, _⟩ := h
 rw [ints_length] at e
 exact ⟨a, c, e⟩
theorem reads_some {W : World} {a : Option Addr} {n c : Nat} {xs : List Int} (h : Reads W (.slice a n c) (ints xs)) (h0 : 0 < xs.length) : ∃ g o, a = some ⟨g, o, none⟩ := by
 obtain ⟨_, _, e, hc⟩ := h
 injection e with e1 e2 e3
 subst e1
 obtain ⟨g, o, ha, _⟩ := hc 0 (.int .i64 xs[0]) (by simp [ints, h0])
 exact ⟨g, o, ha⟩
theorem reads_cell {W : World} {g o n c : Nat} {xs : List Int} (h : Reads W (.slice (some ⟨g, o, none⟩) n c) (ints xs)) {j : Nat} (hj : j < xs.length) :
 W.cell? ⟨g, o + j, none⟩ = some (.int .i64 xs[j]) := by
 obtain ⟨_, _, e, hc⟩ := h
 injection e with e1 e2 e3
 subst e1
 obtain ⟨g', o', ha, h1⟩ := hc j (.int .i64 xs[j]) (by simp [ints, hj])
 injection ha with ha
 injection ha with a1 a2 a3
 subst a1
 subst a2
 exact h1
theorem ownSS_len {W : World} {base : Nat} {a : Option Addr} {n c : Nat} {us : List Value} {xss : List (List Int)} (h : OwnSS W base (.slice a n c) us xss) : n = xss.length := by
 obtain ⟨_, _, e, _⟩ := h.reads
 injection e
theorem ownSS_some {W : World} {base : Nat} {a : Option Addr} {n c : Nat} {us : List Value} {xss : List (List Int)} (h : OwnSS W base (.slice a n c) us xss) (h0 : 0 < xss.length) : ∃ g, a = some ⟨g, 0, none⟩ := by
 rcases h.row.2 with ⟨e, h9⟩ | ⟨g, cap, cur, e, _⟩
 · have := h.len; omega
 · injection e with e1; exact ⟨g, e1⟩
end Go.Proofs.YtdkdhjhhbkcciaaGreat
