/-
 Put together out of: Lift, OpenProc, Progs, ProgOk.
-/
import Derived.Carry
import Derived.Test.YtldagpfeaabcdaaGreatDoorProc
import Derived.Lib.SmallJoins
namespace Go.Proofs.YtldagpfeaabcdaaGreatDoor
open Go.ChangeShapes Go.WideShapes Go.ChangeAt Go.RowKit
theorem jw9 {H : Type} {enc : TypeId × Value → H} {P : Program} (hl : laidOutB P = true) {W W' : World} (hb : Below W.heap.size W W') :
 ∀ (ts : List TypeId) (vs : List Value) (ds : List (DataW H)) (ps : List MemPlace), (∀ t ∈ ts, P.readableRec t = true ∧ t < P.types.size) →
  DataW.TrodAll enc P W 0 (fun _ => true) true ts vs ds ps → (∀ x ∈ ps, x.block < W.heap.size) →
  DataW.TrodAll enc P W' 0 (fun b => decide (b < W.heap.size)) true ts vs ds ps
 | [], vs, ds, ps, _, h, _ => by
  obtain ⟨rfl, rfl, rfl⟩ := trodAll_nil h
  exact trodAll_mk0
 | t :: ts, vs, ds, ps, ht, h, hlt => by
  obtain ⟨v, vs', d, ds', p, q, rfl, rfl, rfl, h0, hr⟩ := trodAll_cons h
  refine trodAll_cons_mk (Below.trod hl (ht t (by simp)).1 (ht t (by simp)).2 h0 hb (fun x hx => hlt x (by simp [hx])))
   (jw9 hl hb ts vs' ds' q (fun t' h' => ht t' (by simp [h'])) hr (fun x hx => hlt x (by simp [hx])))
theorem all_readable {P : Program} {ts : List TypeId} (h : ts.all (fun t => P.readableRec t && decide (t < P.types.size)) = true) : ∀ t ∈ ts, P.readableRec t = true ∧ t < P.types.size := by
 intro t ht
 have := List.all_eq_true.1 h t ht
 rw [Bool.and_eq_true] at this
 exact ⟨this.1, of_decide_eq_true this.2⟩
theorem law_post {H : Type} {enc : TypeId × Value → H} {P : Program} {f : Func} {s : ChangeSpec} {W W' : World} {args : Array Value} {ds : List (DataW H)} {before : List MemPlace} {tb : TypeId}
 (hl : laidOutB P = true) (hts : ∀ t ∈ f.params.toList, P.readableRec t = true ∧ t < P.types.size)
 (hW : DataW.Whole enc P f.params.toList s.vars false W args.toList ds [] before)
 (hr : f.resultTypes = #[tb]) (htb : P.underlying tb = some .bool) (hv : s.vars = [])
 (hs : s.fn H (ds ++ []) = { results := [.lit (.bool true)], args := ds }) (hbel : Below W.heap.size W W') :
 s.post enc P f false true false false W args (.bool true) W' := by
 have hlt : ∀ x ∈ before, x.block < W.heap.size := fun x hx => by simpa using hW.lt x hx
 have hW2 := hW
 obtain ⟨p, q, hA, hV, rfl, _, _⟩ := hW2
 rw [hv] at hV
 obtain ⟨_, rfl⟩ := trodVars_none hV
 rw [List.append_nil] at hlt hW
 refine ⟨ds, [], p, [], p, [], hW, ?_, ?_, ?_, hbel.frame _, fun h => by cases h⟩
 · rw [hr, hs]; exact trodAll_mk1 (shut_bool htb _)
 · rw [hs]; exact jw9 hl hbel _ _ _ _ hts hA hlt
 · rw [hv, hs]; rfl
end Go.Proofs.YtldagpfeaabcdaaGreatDoor
namespace Go.Proofs.YtldagpfeaabcdaaGreatDoor
set_option maxRecDepth 100000
open Go.ChangeShapes Go.WideShapes Go.ChangeAt Go.RowKit
set_option linter.unusedVariables false
set_option maxHeartbeats 4000000
theorem list_of {α : Type} : ∀ (n : Nat) {P : Nat → α → Prop}, (∀ i, i < n → ∃ x, P i x) → ∃ l : List α, l.length = n ∧ ∀ i x, l[i]? = some x → P i x
 | 0, P, _ => ⟨[], rfl, fun i x h => by simp at h⟩
 | n + 1, P, h => by
  obtain ⟨x, hx⟩ := h 0 (by omega)
  obtain ⟨l, hl, hp⟩ := list_of n (P := fun i => P (i + 1)) (fun i hi => h (i + 1) (by omega))
  refine ⟨x :: l, by simp [hl], fun i y hy => ?_⟩
  cases i with
  | zero => simp at hy; subst hy; exact hx
  | succ i => exact hp i y (by simpa using hy)
section
variable {H : Type} {enc : TypeId × Value → H} {P : Program} {w : World} {base : Nat} {spare : Nat → Bool} {held : Bool}
def jb5 (w : World) (v : Value) (ps : List (List Stm)) : Prop :=
 ∃ ao cap, v = .slice ao ps.length cap ∧ ∀ j p, ps[j]? = some p → ∃ g off u, ao = some ⟨g, off, none⟩ ∧ w.cell? ⟨g, off + j, none⟩ = some u ∧ jk5 w u p
theorem ja0 {w w' : World} {v : Value} {ps : List (List Stm)} (h : jb5 w v ps) (hb : Below w.heap.size w w') : jb5 w' v ps := by
 obtain ⟨ao, cap, rfl, hc⟩ := h
 refine ⟨ao, cap, rfl, fun j p hp => ?_⟩
 obtain ⟨g, off, u, hg, hcell, hr⟩ := hc j p hp
 exact ⟨g, off, u, hg, (hb.cell (World.block_lt_of_cell? w _ hcell)).trans hcell, jd0 hr hb⟩
end
theorem own : ownKnob Tryz.prog.godebug = none := by kernel_rfl
theorem laidOut : laidOutB Tryz.prog = true := by kernel_rfl
end Go.Proofs.YtldagpfeaabcdaaGreatDoor
namespace Go.Proofs.YtldagpfeaabcdaaGreatDoor
open Go.RowKit
set_option linter.unusedVariables false
set_option maxHeartbeats 1000000
def OwnP (w : World) (base top : Nat) (v : Value) (ps : List (List Stm)) : Prop :=
 ∃ us : List Value, w.ownsRow base 63 1 v ps.length us ∧ (∀ k, v.ownBlock = some k → k < top) ∧
  ∀ (j : Nat) (u : Value) (p : List Stm), us[j]? = some u → ps[j]? = some p → w.ownsRow base 52 3 u p.length (ja3 p) ∧ ∀ k, u.ownBlock = some k → k < top
theorem jj1 {w : World} {base top : Nat} {v : Value} {ps : List (List Stm)} (h : OwnP w base top v ps) : jb5 w v ps := by
 obtain ⟨us, ho, _, hu⟩ := h
 have hl := ho.1
 simp only [Nat.mul_one] at hl
 obtain ⟨ao, cap, rfl, hc⟩ := jc5 ho
 refine ⟨ao, cap, by rw [hl], fun j p hp => ?_⟩
 have hj : j < us.length := by
  rw [hl]
  exact (List.getElem?_eq_some_iff.1 hp).1
 obtain ⟨g, off, hg, hcell⟩ := hc j us[j] (by simp [hj])
 exact ⟨g, off, us[j], hg, hcell, reads3_own (hu j us[j] p (by simp [hj]) hp).1⟩
theorem ownP_kept {w w' : World} {base top : Nat} {v : Value} {ps : List (List Stm)} (h : OwnP w base top v ps) (hb : Below w.heap.size w w') : OwnP w' base top v ps := by
 obtain ⟨us, ho, ht, hu⟩ := h
 exact ⟨us, jc0 ho hb, ht, fun j u p h1 h2 => ⟨jc0 (hu j u p h1 h2).1 hb, (hu j u p h1 h2).2⟩⟩
theorem qa3 : (Tryz.prog.info? 63).map (fun i => (i.zero, i.size, i.bytes)) = some (some (.agg #[.slice none 0 0]), 1, 24) := by kernel_rfl
theorem set_snoc (us zs : List Value) (u : Value) (k : Nat) (hk : us.length = k) (hz : k < zs.length) : (us ++ zs.drop k).set k u = (us ++ [u]) ++ zs.drop (k + 1) := by
 subst hk
 rw [List.set_append_right _ _ (Nat.le_refl _), Nat.sub_self, List.drop_eq_getElem_cons hz, List.set_cons_zero, List.append_assoc]
 rfl
theorem jp6 {w : World} {base top : Nat} {v : Value} {ps : List (List Stm)} (h : OwnP w base top v ps) {a : Addr} (ha : a.block < base ∨ top ≤ a.block) (u : Value) : OwnP (w.setCell a u) base top v ps := by
 obtain ⟨us, ho, ht, hu⟩ := h
 refine ⟨us, ownsRow_setCell_other ho (fun e => ?_) u, ht, fun j x p h1 h2 => ⟨ownsRow_setCell_other (hu j x p h1 h2).1 (fun e => ?_) u, (hu j x p h1 h2).2⟩⟩
 · have h1 := ht _ e
   have h2 := (ho.lt _ e).1
   omega
 · have h3 := (hu j x p h1 h2).2 _ e
   have h4 := ((hu j x p h1 h2).1.lt _ e).1
   omega
theorem qd7 {w : World} {base top base' top' : Nat} {v : Value} {ps : List (List Stm)} (h : OwnP w base top v ps) (hb : base' ≤ base) (ht' : top ≤ top') : OwnP w base' top' v ps := by
 obtain ⟨us, ho, ht, hu⟩ := h
 exact ⟨us, jc4 ho hb, fun k hk => Nat.lt_of_lt_of_le (ht k hk) ht', fun j x p h1 h2 => ⟨jc4 (hu j x p h1 h2).1 hb, fun k hk => Nat.lt_of_lt_of_le ((hu j x p h1 h2).2 k hk) ht'⟩⟩
theorem jx7 {w : World} {base top : Nat} {v : Value} {ps : List (List Stm)} (h : OwnP w base top v ps) : ∃ a m c, v = .slice a m c := by
 obtain ⟨us, ho, _⟩ := h
 exact jd4 ho
end Go.Proofs.YtldagpfeaabcdaaGreatDoor
namespace Go.Proofs.YtldagpfeaabcdaaGreatDoor
open Go.RowKit
set_option linter.unusedVariables false
set_option maxHeartbeats 1000000
def ji5 (n : Nat) (s : Stm) : Bool := !(decide (s.k = 8) && decide ((n : Int) ≤ s.y))
def jj7 (n : Nat) (p : List Stm) : Bool := je7 p && p.all (ji5 n)
def ja5 (ps : List (List Stm)) : Bool := decide (1 ≤ ps.length) && decide (ps.length ≤ 4) && ps.all (jj7 ps.length)
theorem ji1 {p : List Stm} (h : je7 p = true) {s : Stm} (hs : s ∈ p) : jd7 s.k s.x s.y = true := by
 unfold je7 at h
 simp only [Bool.and_eq_true] at h
 have := List.all_eq_true.1 h.2 s hs
 unfold jm6 at this
 simp only [Bool.and_eq_true] at this
 exact this.1
theorem jm1 {x y : Int} (h : jd7 8 x y = true) : 0 ≤ y ∧ y ≤ 3 := by
 unfold jd7 at h
 simp [inB] at h
 omega
theorem ji0 (ps : List (List Stm)) (v : Value) (w : World) (hl : ps.length ≤ maxLen) (hp : ∀ p ∈ ps, p.length ≤ maxLen) (hv : jb5 w v ps) :
 Calls Tryz.prog 32 #[.agg #[v]] w fun e w' => e = .returned (.bool (ja5 ps)) ∧ Below w.heap.size w w' := by
 unfold maxLen at hl
 obtain ⟨ao, cap, rfl, hc⟩ := hv
 by_cases h1 : ps.length < 1
 · have hr : ja5 ps = false := by simp [ja5]; omega
   rw [hr]
   have h1' : (ps.length : Int) < 1 := by omega
   go_enter Tryz.func32, Tryz.ntmps32
   go_wp2
   go_ret
   exact ⟨rfl, by go_grown⟩
 by_cases h2 : 4 < ps.length
 · have hr : ja5 ps = false := by simp [ja5]; omega
   rw [hr]
   have h1' : ¬ (ps.length : Int) < 1 := by omega
   have h2' : (4 : Int) < (ps.length : Int) := by omega
   go_enter Tryz.func32, Tryz.ntmps32
   go_wp2
   go_ret
   exact ⟨rfl, by go_grown⟩
 have hr : ja5 ps = ps.all (jj7 ps.length) := by
  have e1 : decide (1 ≤ ps.length) = true := by simp; omega
  have e2 : decide (ps.length ≤ 4) = true := by simp; omega
  rw [ja5, e1, e2]
  rfl
 rw [hr]
 clear hr
 have i1 : ¬ (ps.length : Int) < 1 := by omega
 have i2 : ¬ (4 : Int) < (ps.length : Int) := by omega
 go_enter Tryz.func32, Tryz.ntmps32
 go_wp2
 have hb0 : Below w.heap.size w (w.alloc (.cells #[.slice ao ps.length cap] 26)) := by go_grown
 have H0 := heap_alloc_new w (.cells #[.slice ao ps.length cap] 26)
 have s0 : (w.alloc (.cells #[.slice ao ps.length cap] 26)).heap.size = w.heap.size + 1 := by simp
 generalize w.alloc (.cells #[.slice ao ps.length cap] 26) = W at *
 go_loopw [4] (fun i wr => ∃ k : Nat, k ≤ ps.length ∧ i = .int .i64 k ∧ Below W.heap.size W wr ∧ (ps.take k).all (jj7 ps.length) = true) (fun i _ => ps.length - (intOf i).toNat)
 case atStart => exact ⟨0, Nat.zero_le _, rfl, Below.refl _ _, by simp⟩
 case round =>
  obtain ⟨k, hk, rfl, hb, hall⟩ := hrel
  have HALL : Hid _ := hall
  clear hall
  have hbw : Below w.heap.size w wr := hb0.trans (hb.mono hb0.size)
  by_cases hlt : k < ps.length
  · have hlt' : (k : Int) < (ps.length : Int) := by omega
    obtain ⟨g, off, u, rfl, p0, r0⟩ := hc k ps[k] (by simp [hlt])
    have pB := World.block_lt_of_cell? w _ p0
    have qB := (hbw.cell pB).trans p0
    have pl := hp ps[k] (List.getElem_mem hlt)
    have he := specProcOk ps[k] u wr pl (jd0 r0 hbw)
    have hstep := jj4 (jj7 ps.length) ps k hlt
    have hbad := jp1 (jj7 ps.length) ps k hlt
    rw [HALL.out, Bool.true_and] at hstep
    have HS : Hid _ := hstep
    have HB : Hid _ := hbad
    clear hstep hbad hc
    generalize hst : ps[k] = q at *
    clear hst
    obtain ⟨ua, uc, rfl, hd⟩ := id r0
    have C0 : Hid _ := (hb.block w.heap.size (by omega)).trans H0
    obtain ⟨c0, f0⟩ := ja4 C0.out
    cases hok : je7 q
    · rw [hok] at he
      have HF : Hid _ := HB.out (by simp [jj7, hok])
      clear HS HB
      go_wp2_with (go_at_call 58; refine he.mono ?_; rintro e w2 ⟨rfl, b2⟩)
      go_ret
      exact ⟨by rw [HF.out]; rfl, hbw.trans (b2.mono hbw.size)⟩
    · rw [hok] at he
      go_wp2_with fail
      go_at_call 58
      refine he.mono ?_
      rintro e w2 ⟨rfl, b2⟩
      have s2 := b2.size
      have hbw2 : Below w.heap.size w w2 := hbw.trans (b2.mono hbw.size)
      have hb2 : Below W.heap.size W w2 := hb.trans (b2.mono hb.size)
      have C2 : Hid _ := (b2.block w.heap.size (by have := hb.size; omega)).trans C0.out
      obtain ⟨c2, f2⟩ := ja4 C2.out
      have q2 := (hbw2.cell pB).trans p0
      clear c0 f0 C0 qB he
      have pl' : q.length ≤ 9223372036854775807 := by unfold maxLen at pl; omega
      go_wp2
      go_loopw [5] (fun i wq => ∃ j : Nat, j ≤ q.length ∧ i = .int .i64 j ∧ w2 = wq ∧ (q.take j).all (ji5 ps.length) = true) (fun i _ => q.length - (intOf i).toNat)
      case atStart => exact ⟨0, Nat.zero_le _, rfl, rfl, by simp⟩
      case round =>
       obtain ⟨j, hj, rfl, rfl, hall2⟩ := hrel
       have HALL2 : Hid _ := hall2
       clear hall2
       by_cases hlt2 : j < q.length
       · have hlt2' : (j : Int) < (q.length : Int) := by omega
         obtain ⟨g', off', rfl, a0, a1, a2⟩ := hd j q[j] (by simp [hlt2])
         have aB := World.block_lt_of_cell? w _ a0
         have a0 := (hbw2.cell aB).trans a0
         have a1 := (hbw2.cell (p := ⟨g', off' + j * 3 + 1, none⟩) aB).trans a1
         have a2 := (hbw2.cell (p := ⟨g', off' + j * 3 + 2, none⟩) aB).trans a2
         have hstep2 := jj4 (ji5 ps.length) q j hlt2
         have hbad2 := jp1 (ji5 ps.length) q j hlt2
         rw [HALL2.out, Bool.true_and] at hstep2
         have HS2 : Hid _ := hstep2
         have HB2 : Hid _ := hbad2
         clear hstep2 hbad2 hd
         generalize hst : q[j] = s at a0 a1 a2 HS2 HB2
         clear hst
         obtain ⟨sk, sx, sy⟩ := s
         simp only at a0 a1 a2
         by_cases h8 : sk = 8
         · subst h8
           by_cases hy : (ps.length : Int) ≤ sy
           · have HF : Hid _ := HB.out (by rw [jj7, HB2.out (by simp [ji5, hy]), Bool.and_false])
             clear HS HB HS2 HB2
             go_wp2
             go_ret
             exact ⟨by rw [HF.out]; rfl, hbw2⟩
           · have HF : Hid ((q.take (j + 1)).all (ji5 ps.length) = true) := HS2.out.trans (by simp [ji5, hy])
             clear HS2 HB2
             go_wp2
             go_roundw
             case rel => exact ⟨j + 1, by omega, by go_num, by trivial, HF.out⟩
             case measure => simp [intOf]; omega
         · have HF : Hid ((q.take (j + 1)).all (ji5 ps.length) = true) := HS2.out.trans (by simp [ji5, h8])
           have h8' : (sk == 8) = false := by simpa using h8
           clear HS2 HB2
           go_wp2
           go_roundw
           case rel => exact ⟨j + 1, by omega, by go_num, by trivial, HF.out⟩
           case measure => simp [intOf]; omega
       · have hjj : j = q.length := by omega
         subst hjj
         have HF : Hid ((ps.take (k + 1)).all (jj7 ps.length) = true) := by
          have h3 := HALL2.out
          rw [List.take_length] at h3
          exact HS.out.trans (by rw [jj7, hok, h3]; rfl)
         go_wp2
         go_roundw
         case rel => exact ⟨k + 1, by omega, by go_num, hb2, HF.out⟩
         case measure => simp [intOf]; omega
  · have hkk : k = ps.length := by omega
    subst hkk
    go_wp2
    go_ret
    have hal := HALL.out
    rw [List.take_length] at hal
    exact ⟨by rw [hal]; rfl, hbw⟩
theorem callsBelow (p : List Stm) (n : Nat) (v : Value) (w : World) (hl : p.length ≤ maxLen) (hn : n ≤ 4) (hok : ∀ s ∈ p, jd7 s.k s.x s.y = true) (hv : jk5 w v p) :
 Calls Tryz.prog 41 #[.agg #[v], .int .i64 n] w fun e w' => e = .returned (.bool (p.all (ji5 n))) ∧ Below w.heap.size w w' := by
 unfold maxLen at hl
 obtain ⟨ao, cap, rfl, hc⟩ := hv
 go_enter Tryz.func41, Tryz.ntmps41
 go_wp2
 have hb0 : Below w.heap.size w (w.alloc (.cells #[.slice ao p.length cap] 63)) := by go_grown
 generalize w.alloc (.cells #[.slice ao p.length cap] 63) = W at *
 go_loopw [10] (fun i wr => ∃ k : Nat, k ≤ p.length ∧ i = .int .i64 k ∧ Below w.heap.size w wr ∧ (p.take k).all (ji5 n) = true) (fun i _ => p.length - (intOf i).toNat)
 case atStart => exact ⟨0, Nat.zero_le _, rfl, hb0, by simp⟩
 case round =>
  obtain ⟨k, hk, rfl, hb, hall⟩ := hrel
  have HALL : Hid _ := hall
  clear hall
  by_cases hlt : k < p.length
  · have hlt' : (k : Int) < (p.length : Int) := by omega
    obtain ⟨g, off, rfl, a0, a1, a2⟩ := hc k p[k] (by simp [hlt])
    have aB := World.block_lt_of_cell? w _ a0
    have a0 := (hb.cell aB).trans a0
    have a1 := (hb.cell (p := ⟨g, off + k * 3 + 1, none⟩) aB).trans a1
    have a2 := (hb.cell (p := ⟨g, off + k * 3 + 2, none⟩) aB).trans a2
    have hsk := hok p[k] (List.getElem_mem hlt)
    have hstep := jj4 (ji5 n) p k hlt
    have hbad := jp1 (ji5 n) p k hlt
    rw [HALL.out, Bool.true_and] at hstep
    have HS : Hid _ := hstep
    have HB : Hid _ := hbad
    clear hstep hbad hc hok
    generalize hst : p[k] = s at a0 a1 a2 HS HB hsk
    clear hst
    obtain ⟨sk, sx, sy⟩ := s
    simp only at a0 a1 a2 hsk
    have hbx : Below w.heap.size w (wr.alloc (.cells #[.int .i64 sk, .int .i64 sx, .int .i64 sy] 52)) := hb.alloc hb.size _
    by_cases h8 : sk = 8
    · subst h8
      have hwi := within sy n
      rw [wi_ge (jm1 hsk).1] at hwi
      clear hsk
      by_cases hy : (n : Int) ≤ sy
      · have HF : Hid _ := HB.out (by simp [ji5, hy])
        have hd : decide ((n : Int) ≤ sy) = true := by simp [hy]
        rw [hd] at hwi
        clear HS HB hd
        go_wp2_with (go_at_call 71; refine (hwi _).mono ?_; rintro e w3 ⟨rfl, rfl⟩)
        go_ret
        exact ⟨by rw [HF.out]; rfl, hbx⟩
      · have HF : Hid ((p.take (k + 1)).all (ji5 n) = true) := HS.out.trans (by simp [ji5, hy])
        have hd : decide ((n : Int) ≤ sy) = false := by simp; omega
        rw [hd] at hwi
        clear HS HB hd
        go_wp2_with (go_at_call 71; refine (hwi _).mono ?_; rintro e w3 ⟨rfl, rfl⟩)
        go_roundw
        case rel => exact ⟨k + 1, by omega, by go_num, hbx, HF.out⟩
        case measure => simp [intOf]; omega
    · have HF : Hid ((p.take (k + 1)).all (ji5 n) = true) := HS.out.trans (by simp [ji5, h8])
      have h8' : (sk == 8) = false := by simpa using h8
      clear HS HB hsk
      go_wp2
      go_roundw
      case rel => exact ⟨k + 1, by omega, by go_num, hbx, HF.out⟩
      case measure => simp [intOf]; omega
  · have hkk : k = p.length := by omega
    subst hkk
    go_wp2
    go_ret
    have hal := HALL.out
    rw [List.take_length] at hal
    exact ⟨by rw [hal]; rfl, hb⟩
theorem jj6 (ps : List (List Stm)) (v : Value) (w : World) (hl : ps.length ≤ maxLen) (hp : ∀ p ∈ ps, p.length ≤ maxLen) (hv : jb5 w v ps) :
 Calls Tryz.prog 17 #[.agg #[v]] w fun e w' => e = .returned (.bool (ja5 ps)) ∧ Below w.heap.size w w' := by
 unfold maxLen at hl
 obtain ⟨ao, cap, rfl, hc⟩ := hv
 by_cases h1 : ps.length < 1
 · have hr : ja5 ps = false := by simp [ja5]; omega
   rw [hr]
   have h1' : (ps.length : Int) < 1 := by omega
   go_enter Tryz.func17, Tryz.ntmps17
   go_wp2
   go_ret
   exact ⟨rfl, by go_grown⟩
 by_cases h2 : 4 < ps.length
 · have hr : ja5 ps = false := by simp [ja5]; omega
   rw [hr]
   have h1' : ¬ (ps.length : Int) < 1 := by omega
   have h2' : (4 : Int) < (ps.length : Int) := by omega
   go_enter Tryz.func17, Tryz.ntmps17
   go_wp2
   go_ret
   exact ⟨rfl, by go_grown⟩
 have hr : ja5 ps = ps.all (jj7 ps.length) := by
  have e1 : decide (1 ≤ ps.length) = true := by simp; omega
  have e2 : decide (ps.length ≤ 4) = true := by simp; omega
  rw [ja5, e1, e2]
  rfl
 rw [hr]
 clear hr
 have i1 : ¬ (ps.length : Int) < 1 := by omega
 have i2 : ¬ (4 : Int) < (ps.length : Int) := by omega
 go_enter Tryz.func17, Tryz.ntmps17
 go_wp2
 have hb0 : Below w.heap.size w (w.alloc (.cells #[.slice ao ps.length cap] 26)) := by go_grown
 generalize w.alloc (.cells #[.slice ao ps.length cap] 26) = W at *
 go_loopw [18] (fun i wr => ∃ k : Nat, k ≤ ps.length ∧ i = .int .i64 k ∧ Below w.heap.size w wr ∧ (ps.take k).all (jj7 ps.length) = true) (fun i _ => ps.length - (intOf i).toNat)
 case atStart => exact ⟨0, Nat.zero_le _, rfl, hb0, by simp⟩
 case round =>
  obtain ⟨k, hk, rfl, hb, hall⟩ := hrel
  have HALL : Hid _ := hall
  clear hall
  by_cases hlt : k < ps.length
  · have hlt' : (k : Int) < (ps.length : Int) := by omega
    obtain ⟨g, off, u, rfl, p0, r0⟩ := hc k ps[k] (by simp [hlt])
    have p0 := (hb.cell (World.block_lt_of_cell? w _ p0)).trans p0
    have pl := hp ps[k] (List.getElem_mem hlt)
    have r0 := jd0 r0 hb
    have hbx : Below w.heap.size w (wr.alloc (.cells #[u] 63)) := hb.alloc hb.size _
    have bx : Below wr.heap.size wr (wr.alloc (.cells #[u] 63)) := by go_grown
    have X0 := heap_alloc_new wr (.cells #[u] 63)
    have sx : (wr.alloc (.cells #[u] 63)).heap.size = wr.heap.size + 1 := by simp
    have he := implProcOk ps[k] u _ pl (jd0 r0 bx)
    have hcb := callsBelow ps[k] ps.length u
    have hstm := ji1 (p := ps[k])
    have hstep := jj4 (jj7 ps.length) ps k hlt
    have hbad := jp1 (jj7 ps.length) ps k hlt
    rw [HALL.out, Bool.true_and] at hstep
    have HS : Hid _ := hstep
    have HB : Hid _ := hbad
    clear hstep hbad hc
    generalize hst : ps[k] = q at *
    clear hst
    obtain ⟨ua, un, uc, rfl⟩ := jz2 r0
    cases hok : je7 q
    · rw [hok] at he
      have HF : Hid _ := HB.out (by simp [jj7, hok])
      clear HS HB hcb hstm
      go_wp2_with (go_at_call 40; refine he.mono ?_; rintro e w2 ⟨rfl, b2⟩)
      go_ret
      exact ⟨by rw [HF.out]; rfl, hbx.trans (b2.mono hbx.size)⟩
    · rw [hok] at he
      have HSTM : Hid _ := fun s (hs : s ∈ q) => hstm hok hs
      clear hstm
      have HW : Hid _ := hcb
      clear hcb
      cases hcl : q.all (ji5 ps.length)
      · have HF : Hid _ := HB.out (by rw [jj7, hok, hcl]; rfl)
        clear HS HB
        go_wp2_with fail
        go_at_call 40
        refine he.mono ?_
        rintro e w2 ⟨rfl, b2⟩
        have X2 := (b2.block wr.heap.size (by omega)).trans X0
        obtain ⟨c2, f2⟩ := ja4 X2
        have b3 := bx.trans (b2.mono bx.size)
        have hcb := HW.out w2 pl (by omega) HSTM.out (jd0 r0 b3)
        rw [hcl] at hcb
        clear X2 hcl
        go_wp2_with (go_at_call 41; refine hcb.mono ?_; rintro e w3 ⟨rfl, b4⟩)
        go_ret
        exact ⟨by rw [HF.out]; rfl, hb.trans ((b3.trans (b4.mono b3.size)).mono hb.size)⟩
      · have HF : Hid ((ps.take (k + 1)).all (jj7 ps.length) = true) := HS.out.trans (by rw [jj7, hok, hcl]; rfl)
        clear HS HB
        go_wp2_with fail
        go_at_call 40
        refine he.mono ?_
        rintro e w2 ⟨rfl, b2⟩
        have X2 := (b2.block wr.heap.size (by omega)).trans X0
        obtain ⟨c2, f2⟩ := ja4 X2
        have b3 := bx.trans (b2.mono bx.size)
        have hcb := HW.out w2 pl (by omega) HSTM.out (jd0 r0 b3)
        rw [hcl] at hcb
        clear X2 hcl
        go_wp2_with (go_at_call 41; refine hcb.mono ?_; rintro e w3 ⟨rfl, b4⟩)
        go_roundw
        case rel => exact ⟨k + 1, by omega, by go_num, hb.trans ((b3.trans (b4.mono b3.size)).mono hb.size), HF.out⟩
        case measure => simp [intOf]; omega
  · have hkk : k = ps.length := by omega
    subst hkk
    go_wp2
    go_ret
    have hal := HALL.out
    rw [List.take_length] at hal
    exact ⟨by rw [hal]; rfl, hb⟩
end Go.Proofs.YtldagpfeaabcdaaGreatDoor
