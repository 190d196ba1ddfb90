/-
 Put together out of: RelMath, FlowsMath, Proc.
-/
import Derived.Test.YtnjbihfceckpfaaG08FlowTop
import Derived.Test.YtnjbihfceckpfaaG10SpecFlow
import Derived.Test.YtnjbihfceckpfaaG01DrawKit
/-
 Chapter 6, mathematics: to compose goes in any order of doing, the unit changes nothing, over what is joined it goes to each; images of sets together.
-/
namespace Go.Proofs.Ytnjbihfceckpfaa
open Go.RowKit
set_option linter.unusedVariables false

theorem comp_get {xs ys : List Int} (hx : Smalls xs) {j : Nat} (hj : j < 7) : (comp xs ys).getD j 0 = img ys (xs.getD j 0) := by
 simp [comp, List.getD, hx.1, hj]

theorem joi_get {xs ys : List Int} (hx : Smalls xs) (hy : Smalls ys) {j : Nat} (hj : j < 7) : (joi xs ys).getD j 0 = lor (xs.getD j 0) (ys.getD j 0) := by
 simp [joi, List.getD, hx.1, hy.1, hj]

theorem smalls_of {xs : List Int} (hl : xs.length = 7) (h : ∀ j, j < 7 → Small (xs.getD j 0)) : Smalls xs := by
 refine ⟨hl, fun x hx => ?_⟩
 obtain ⟨j, hj, rfl⟩ := List.getElem_of_mem hx
 have := h j (by omega)
 simpa [List.getD, hj] using this

theorem comp_smalls {xs ys : List Int} (hx : Smalls xs) (hy : Smalls ys) : Smalls (comp xs ys) :=
 smalls_of (by simp [comp, hx.1]) (fun j hj => by rw [comp_get hx hj]; exact img_small hy _)

theorem joi_smalls {xs ys : List Int} (hx : Smalls xs) (hy : Smalls ys) : Smalls (joi xs ys) :=
 smalls_of (by simp [joi, hx.1, hy.1]) (fun j hj => by rw [joi_get hx hy hj]; exact lor_small (hx.getD j) (hy.getD j))

theorem unit_smalls : Smalls unitL := relOk_iff.1 (by decide)

theorem bit_eq {a b : Int} (ha : Small a) (hb : Small b) (h : ∀ t, t < 7 → (bit a t = true ↔ bit b t = true)) : a = b :=
 bit_ext ha hb (fun t ht => Bool.eq_iff_iff.2 (h t ht))

theorem unit_get {j : Nat} (hj : j < 7) (t : Nat) (ht : t < 7) : bit (unitL.getD j 0) t = true ↔ j = t := by
 have h : ∀ j, j < 7 → ∀ t, t < 7 → (bit (unitL.getD j 0) t = decide (j = t)) := by decide
 rw [h j hj t ht, decide_eq_true_eq]

theorem img_comp {xs ys : List Int} (hx : Smalls xs) (hy : Smalls ys) (s : Int) : img (comp xs ys) s = img ys (img xs s) := by
 have hc := comp_smalls hx hy
 refine bit_eq (img_small hc s) (img_small hy _) (fun t ht => ?_)
 rw [bit_img hc, bit_img hy]
 constructor
 · rintro ⟨i, hi, h1, h2⟩
   rw [comp_get hx hi, bit_img hy] at h2
   obtain ⟨k, hk, h3, h4⟩ := h2
   exact ⟨k, hk, (bit_img hx s k).2 ⟨i, hi, h1, h3⟩, h4⟩
 · rintro ⟨k, hk, h3, h4⟩
   obtain ⟨i, hi, h1, h2⟩ := (bit_img hx s k).1 h3
   exact ⟨i, hi, h1, by rw [comp_get hx hi, bit_img hy]; exact ⟨k, hk, h2, h4⟩⟩

theorem img_joi {xs ys : List Int} (hx : Smalls xs) (hy : Smalls ys) (s : Int) : img (joi xs ys) s = lor (img xs s) (img ys s) := by
 have hj := joi_smalls hx hy
 refine bit_eq (img_small hj s) (lor_small (img_small hx s) (img_small hy s)) (fun t ht => ?_)
 rw [bit_img hj, bit_lor (img_small hx s) (img_small hy s), Bool.or_eq_true, bit_img hx, bit_img hy]
 constructor
 · rintro ⟨i, hi, h1, h2⟩
   rw [joi_get hx hy hi, bit_lor (hx.getD i) (hy.getD i), Bool.or_eq_true] at h2
   rcases h2 with h | h
   · exact .inl ⟨i, hi, h1, h⟩
   · exact .inr ⟨i, hi, h1, h⟩
 · rintro (⟨i, hi, h1, h2⟩ | ⟨i, hi, h1, h2⟩)
   · exact ⟨i, hi, h1, by rw [joi_get hx hy hi, bit_lor (hx.getD i) (hy.getD i), Bool.or_eq_true]; exact .inl h2⟩
   · exact ⟨i, hi, h1, by rw [joi_get hx hy hi, bit_lor (hx.getD i) (hy.getD i), Bool.or_eq_true]; exact .inr h2⟩

theorem img_lor {rs : List Int} (hr : Smalls rs) {s t : Int} (hs : Small s) (ht : Small t) : img rs (lor s t) = lor (img rs s) (img rs t) := by
 refine bit_eq (img_small hr _) (lor_small (img_small hr s) (img_small hr t)) (fun k hk => ?_)
 rw [bit_img hr, bit_lor (img_small hr s) (img_small hr t), Bool.or_eq_true, bit_img hr, bit_img hr]
 constructor
 · rintro ⟨i, hi, h1, h2⟩
   rw [bit_lor hs ht, Bool.or_eq_true] at h1
   rcases h1 with h | h
   · exact .inl ⟨i, hi, h, h2⟩
   · exact .inr ⟨i, hi, h, h2⟩
 · rintro (⟨i, hi, h1, h2⟩ | ⟨i, hi, h1, h2⟩)
   · exact ⟨i, hi, by rw [bit_lor hs ht, h1, Bool.true_or], h2⟩
   · exact ⟨i, hi, by rw [bit_lor hs ht, h1, Bool.or_true], h2⟩

theorem img_zero {rs : List Int} (hr : Smalls rs) : img rs 0 = 0 := by
 refine bit_eq (img_small hr _) ⟨by omega, by omega⟩ (fun k hk => ?_)
 rw [bit_img hr]
 simp [bit_zero]

theorem img_unit {s : Int} (hs : Small s) : img unitL s = s := by
 refine bit_eq (img_small unit_smalls s) hs (fun t ht => ?_)
 rw [bit_img unit_smalls]
 constructor
 · rintro ⟨i, hi, h1, h2⟩
   rw [unit_get hi t ht] at h2
   rw [← h2]; exact h1
 · intro h
   exact ⟨t, ht, h, (unit_get ht t ht).2 rfl⟩

end Go.Proofs.Ytnjbihfceckpfaa

/-
 Chapter 7, mathematics: what a statement makes of a set, fact by fact.
-/
namespace Go.Proofs.Ytnjbihfceckpfaa
open Go.RowKit
set_option linter.unusedVariables false
set_option maxHeartbeats 1000000

theorem bit_made : ∀ j, j < 7 → ∀ x, x < 6 → ∀ t, t < 7 → ∀ b : Bool,
 bit (if b = true then lor (cut (unitL.getD j 0) (factN x)) (factN x) else cut (unitL.getD j 0) (factN x)) t = if t = x + 1 then b else decide (j = t) := by
 decide +kernel

theorem small_made : ∀ j, j < 7 → ∀ x, x < 6 → ∀ b : Bool,
 (0 ≤ (if b = true then lor (cut (unitL.getD j 0) (factN x)) (factN x) else cut (unitL.getD j 0) (factN x))) ∧ (if b = true then lor (cut (unitL.getD j 0) (factN x)) (factN x) else cut (unitL.getD j 0) (factN x)) ≤ 127 := by
 decide +kernel

theorem mkL_smalls (x : Nat) (hx : x < 6) (m : Int) : Smalls (mkL unitL (factN x) m) := by
 refine smalls_of (mkL_length _ _ _) (fun j hj => ?_)
 rw [mkL_getD _ _ _ _ hj]
 exact small_made j hj x hx (bit m j)

theorem bit_mkL (x : Nat) (hx : x < 6) (m : Int) (j : Nat) (hj : j < 7) (t : Nat) (ht : t < 7) : bit ((mkL unitL (factN x) m).getD j 0) t = if t = x + 1 then bit m j else decide (j = t) := by
 rw [mkL_getD _ _ _ _ hj]
 exact bit_made j hj x hx t ht (bit m j)

/-- Other facts stay. -/
theorem img_other (x : Nat) (hx : x < 6) (m s : Int) (t : Nat) (ht : t < 7) (hn : ¬ t = x + 1) : bit (img (mkL unitL (factN x) m) s) t = bit s t := by
 rw [Bool.eq_iff_iff, bit_img (mkL_smalls x hx m)]
 constructor
 · rintro ⟨i, hi, h1, h2⟩
   rw [bit_mkL x hx m i hi t ht, if_neg hn] at h2
   obtain rfl : i = t := by simpa using h2
   exact h1
 · intro h
   exact ⟨t, ht, h, by rw [bit_mkL x hx m t ht t ht, if_neg hn]; simp⟩

theorem flowL_smalls {c k x y : Int} (h : stmtOk k x y = true) : Smalls (flowL c k x y) := by
 obtain ⟨i, rfl, hi⟩ := stmtOk_x6 h
 unfold flowL
 split
 · exact mkL_smalls i hi _
 split
 · exact mkL_smalls i hi _
 split
 · exact mkL_smalls i hi _
 split
 · exact mkL_smalls i hi _
 exact unit_smalls

end Go.Proofs.Ytnjbihfceckpfaa

/-
 Procs: toProc, szProc, eqProc, spec.ProcOk, impl.ProcOk.
-/
namespace Go.Proofs.Ytnjbihfceckpfaa
open Go.RowKit
set_option linter.unusedVariables false
set_option maxHeartbeats 800000

theorem one_cell {w : World} {b : Nat} {x : Value} {T : TypeId} (h : w.heap[b]? = some (.cells #[x] T (0, 0))) : w.cell? ⟨b, 0, none⟩ = some x ∧ w.frozen? ⟨b, 0, none⟩ = false := by
 constructor <;> simp [World.cell?, World.frozen?, h]

theorem own_slice {w : World} {base : Nat} {e : TypeId} {s n : Nat} {u : Value} {xs : List Value} (h : w.ownsRow base e s u n xs) : ∃ a m c, u = .slice a m c := by
 rcases h.2 with ⟨rfl, _⟩ | ⟨g, cap, cur, rfl, _⟩
 · exact ⟨_, _, _, rfl⟩
 · exact ⟨_, _, _, rfl⟩

theorem reads3_slice {w : World} {u : Value} {ss : List Stm} (h : Reads3 w u ss) : ∃ a m c, u = .slice a m c := by
 obtain ⟨a, c, rfl, _⟩ := h
 exact ⟨_, _, _, rfl⟩

/-- Is a statement right within a Proc of n? -/
def stmOk (n : Nat) (s : Stm) : Bool := stmtOk s.k s.x s.y && !(decide (s.k = 7) && decide ((n : Int) ≤ s.y))

/-- What both answer of a Proc. -/
def procOk (ss : List Stm) : Bool :=
 decide (1 ≤ ss.length) && decide (ss.length ≤ 12) && (ss[ss.length - 1]?).any (fun s => decide (s.k = 9)) && ss.all (stmOk ss.length)

theorem all_take_succ {α : Type} (p : α → Bool) (l : List α) (k : Nat) (h : k < l.length) : (l.take (k + 1)).all p = ((l.take k).all p && p l[k]) := by
 rw [List.take_succ_eq_append_getElem h, List.all_append]; simp

theorem all_false {α : Type} (p : α → Bool) (l : List α) (k : Nat) (h : k < l.length) (hp : p l[k] = false) : l.all p = false := by
 rw [List.all_eq_false]
 exact ⟨l[k], List.getElem_mem h, by simp [hp]⟩

theorem specProcOk (ss : List Stm) (v : Value) (w : World) (hl : ss.length ≤ maxLen) (hv : Reads3 w v ss) :
 Calls Try.prog 67 #[.agg #[v]] w fun e w' => e = .returned (.bool (procOk ss)) ∧ Below w.heap.size w w' := by
 unfold maxLen at hl
 obtain ⟨ao, cap, rfl, hc⟩ := hv
 by_cases h1 : ss.length < 1
 · have hr : procOk ss = false := by simp [procOk]; omega
   rw [hr]
   have h1' : (ss.length : Int) < 1 := by omega
   go_enter Try.func67, Try.ntmps67
   go_wp2
   go_ret
   exact ⟨rfl, by go_grown⟩
 by_cases h2 : 12 < ss.length
 · have hr : procOk ss = false := by simp [procOk]; omega
   rw [hr]
   have h1' : ¬ (ss.length : Int) < 1 := by omega
   have h2' : (12 : Int) < (ss.length : Int) := by omega
   go_enter Try.func67, Try.ntmps67
   go_wp2
   go_ret
   exact ⟨rfl, by go_grown⟩
 have hlast : ss.length - 1 < ss.length := by omega
 have hz : ss[ss.length - 1]? = some ss[ss.length - 1] := by simp [hlast]
 obtain ⟨g, off, rfl, z0, _, _⟩ := hc _ _ hz
 have zB := World.block_lt_of_cell? w _ z0
 have n1 : ((ss.length : Int) - 1).toNat = ss.length - 1 := by omega
 by_cases h3 : ss[ss.length - 1].k = 9
 · have hr : procOk ss = ss.all (stmOk ss.length) := by
    have e1 : decide (1 ≤ ss.length) = true := by simp; omega
    have e2 : decide (ss.length ≤ 12) = true := by simp; omega
    rw [procOk, e1, e2, hz]
    simp [h3]
   rw [hr]
   rw [h3] at z0
   clear hz h3 hr
   have i1 : ¬ (ss.length : Int) < 1 := by omega
   have i2 : ¬ (12 : Int) < (ss.length : Int) := by omega
   go_enter Try.func67, Try.ntmps67
   go_wp2
   have hb0 : Below w.heap.size w (w.alloc (.cells #[.slice (some ⟨g, off, none⟩) ss.length cap] 81)) := by go_grown
   have H0 := heap_alloc_new w (.cells #[.slice (some ⟨g, off, none⟩) ss.length cap] 81)
   have s0 : (w.alloc (.cells #[.slice (some ⟨g, off, none⟩) ss.length cap] 81)).heap.size = w.heap.size + 1 := by simp
   generalize w.alloc (.cells #[.slice (some ⟨g, off, none⟩) ss.length cap] 81) = W at *
   go_loopw [4] (fun i wr => ∃ k : Nat, k ≤ ss.length ∧ i = .int .i64 k ∧ Below W.heap.size W wr ∧ (ss.take k).all (stmOk ss.length) = true) (fun i _ => ss.length - (intOf i).toNat)
   case atStart => exact ⟨0, Nat.zero_le _, rfl, Below.refl _ _, by simp⟩
   case round =>
    obtain ⟨k, hk, rfl, hb, hall⟩ := hrel
    have HALL : Hid _ := hall
    clear hall
    have hbw : Below w.heap.size w wr := hb0.trans (hb.mono hb0.size)
    obtain ⟨c0, f0⟩ := one_cell ((hb.block w.heap.size (by omega)).trans H0)
    by_cases hlt : k < ss.length
    · have hlt' : (k : Int) < (ss.length : Int) := by omega
      have e0 : some (⟨g, off, none⟩ : Addr) = some ⟨g, off, none⟩ := rfl
      obtain ⟨g', off', e1, p0, p1, p2⟩ := hc k ss[k] (by simp [hlt])
      simp only [Option.some.injEq, Addr.mk.injEq, and_true] at e1
      obtain ⟨rfl, rfl⟩ := e1
      have pB := World.block_lt_of_cell? w _ p0
      have p0 := (hbw.cell pB).trans p0
      have p1 := (hbw.cell (p := ⟨g, off + k * 3 + 1, none⟩) pB).trans p1
      have p2 := (hbw.cell (p := ⟨g, off + k * 3 + 2, none⟩) pB).trans p2
      have he := specStmtOk ss[k].k ss[k].x ss[k].y wr
      have hstep := all_take_succ (stmOk ss.length) ss k hlt
      have hbad := all_false (stmOk ss.length) ss k hlt
      rw [HALL.out, Bool.true_and] at hstep
      have HS : Hid _ := hstep
      have HB : Hid _ := hbad
      clear hstep hbad hc z0
      generalize hst : ss[k] = s at he p0 p1 p2 HS HB
      clear hst
      obtain ⟨sk, sx, sy⟩ := s
      simp only at he p0 p1 p2
      cases hok : stmtOk sk sx sy
      · rw [hok] at he
        have HF : Hid _ := HB.out (by simp [stmOk, hok])
        clear HS HB
        go_wp2_with (go_at_call 96; refine he.mono ?_; rintro e w2 ⟨rfl, b2⟩)
        go_ret
        exact ⟨by rw [HF.out]; rfl, hbw.trans (b2.mono hbw.size)⟩
      · rw [hok] at he
        by_cases h7 : sk = 7
        · subst h7
          by_cases hy : (ss.length : Int) ≤ sy
          · have HF : Hid _ := HB.out (by simp [stmOk, hok, hy])
            clear HS HB
            go_wp2_with fail
            go_at_call 96
            refine he.mono ?_
            rintro e w2 ⟨rfl, b2⟩
            obtain ⟨hcc, hff⟩ := bcell b2
            have cB := World.block_lt_of_cell? wr _ c0
            have pB' := World.block_lt_of_cell? wr _ p0
            go_wp2
            go_ret
            exact ⟨by rw [HF.out]; rfl, hbw.trans (b2.mono hbw.size)⟩
          · have HF : Hid ((ss.take (k + 1)).all (stmOk ss.length) = true) := HS.out.trans (by simp [stmOk, hok, hy])
            clear HS HB
            go_wp2_with fail
            go_at_call 96
            refine he.mono ?_
            rintro e w2 ⟨rfl, b2⟩
            obtain ⟨hcc, hff⟩ := bcell b2
            have cB := World.block_lt_of_cell? wr _ c0
            have pB' := World.block_lt_of_cell? wr _ p0
            go_wp2
            go_roundw
            case rel => exact ⟨k + 1, by omega, by go_num, hb.trans (b2.mono hb.size), HF.out⟩
            case measure => simp [intOf]; omega
        · have HF : Hid ((ss.take (k + 1)).all (stmOk ss.length) = true) := HS.out.trans (by simp [stmOk, hok, h7])
          clear HS HB
          go_wp2_with fail
          go_at_call 96
          refine he.mono ?_
          rintro e w2 ⟨rfl, b2⟩
          obtain ⟨hcc, hff⟩ := bcell b2
          have cB := World.block_lt_of_cell? wr _ c0
          have pB' := World.block_lt_of_cell? wr _ p0
          have h7' : (sk == 7) = false := by simpa using h7
          go_wp2
          go_roundw
          case rel => exact ⟨k + 1, by omega, by go_num, hb.trans (b2.mono hb.size), HF.out⟩
          case measure => simp [intOf]; omega
    · have hkk : k = ss.length := by omega
      subst hkk
      go_wp2
      go_ret
      have := HALL.out
      rw [List.take_length] at this
      exact ⟨by rw [this]; rfl, hbw⟩
 · have hr : procOk ss = false := by
    rw [procOk, hz]
    simp [h3]
   rw [hr]
   clear hz hr
   have h3' : (ss[ss.length - 1].k != 9) = true := by simp [h3]
   generalize ss[ss.length - 1] = s at *
   go_enter Try.func67, Try.ntmps67
   go_wp2
   go_ret
   exact ⟨rfl, by go_grown⟩

theorem stmtOk_jump {x y : Int} (h : stmtOk 7 x y = true) : 0 ≤ y := by
 unfold stmtOk at h
 simp [inB] at h
 omega

theorem wi_ge {y : Int} {n : Nat} (h0 : 0 ≤ y) : wiB y n = !decide ((n : Int) ≤ y) := by
 unfold wiB
 by_cases h : y < n
 · simp [h0, h]
 · simp [h]; omega

theorem implProcOk (ss : List Stm) (v : Value) (w : World) (hl : ss.length ≤ maxLen) (hv : Reads3 w v ss) :
 Calls Try.prog 109 #[.agg #[v]] w fun e w' => e = .returned (.bool (procOk ss)) ∧ Below w.heap.size w w' := by
 unfold maxLen at hl
 obtain ⟨ao, cap, rfl, hc⟩ := hv
 by_cases h1 : ss.length < 1
 · have hr : procOk ss = false := by simp [procOk]; omega
   rw [hr]
   have h1' : (ss.length : Int) < 1 := by omega
   go_enter Try.func109, Try.ntmps109
   go_wp2
   go_ret
   exact ⟨rfl, by go_grown⟩
 by_cases h2 : 12 < ss.length
 · have hr : procOk ss = false := by simp [procOk]; omega
   rw [hr]
   have h1' : ¬ (ss.length : Int) < 1 := by omega
   have h2' : (12 : Int) < (ss.length : Int) := by omega
   go_enter Try.func109, Try.ntmps109
   go_wp2
   go_ret
   exact ⟨rfl, by go_grown⟩
 have hlast : ss.length - 1 < ss.length := by omega
 have hz : ss[ss.length - 1]? = some ss[ss.length - 1] := by simp [hlast]
 obtain ⟨g, off, rfl, z0, _, _⟩ := hc _ _ hz
 have zB := World.block_lt_of_cell? w _ z0
 have n1 : ((ss.length : Int) - 1).toNat = ss.length - 1 := by omega
 have hr : procOk ss = (ss.all (stmOk ss.length) && (ss[ss.length - 1].k == 9)) := by
  have e1 : decide (1 ≤ ss.length) = true := by simp; omega
  have e2 : decide (ss.length ≤ 12) = true := by simp; omega
  rw [procOk, e1, e2, hz, Bool.and_comm]
  rfl
 rw [hr]
 have i1 : ¬ (ss.length : Int) < 1 := by omega
 have i2 : ¬ (12 : Int) < (ss.length : Int) := by omega
 clear hz hr
 generalize ss[ss.length - 1] = t at *
 obtain ⟨tk, tx, ty⟩ := t
 simp only at z0
 go_enter Try.func109, Try.ntmps109
 go_wp2
 have hb0 : Below w.heap.size w (w.alloc (.cells #[.slice (some ⟨g, off, none⟩) ss.length cap] 81)) := by go_grown
 have H0 := heap_alloc_new w (.cells #[.slice (some ⟨g, off, none⟩) ss.length cap] 81)
 have s0 : (w.alloc (.cells #[.slice (some ⟨g, off, none⟩) ss.length cap] 81)).heap.size = w.heap.size + 1 := by simp
 generalize w.alloc (.cells #[.slice (some ⟨g, off, none⟩) ss.length cap] 81) = W at *
 go_loopw [18] (fun i wr => ∃ k : Nat, k ≤ ss.length ∧ i = .int .i64 k ∧ Below W.heap.size W wr ∧ (ss.take k).all (stmOk ss.length) = true) (fun i _ => ss.length - (intOf i).toNat)
 case atStart => exact ⟨0, Nat.zero_le _, rfl, Below.refl _ _, by simp⟩
 case round =>
  obtain ⟨k, hk, rfl, hb, hall⟩ := hrel
  have HALL : Hid _ := hall
  clear hall
  have hbw : Below w.heap.size w wr := hb0.trans (hb.mono hb0.size)
  have z0 := (hbw.cell zB).trans z0
  obtain ⟨c0, f0⟩ := one_cell ((hb.block w.heap.size (by omega)).trans H0)
  by_cases hlt : k < ss.length
  · have hlt' : (k : Int) < (ss.length : Int) := by omega
    obtain ⟨g', off', e1, p0, p1, p2⟩ := hc k ss[k] (by simp [hlt])
    simp only [Option.some.injEq, Addr.mk.injEq, and_true] at e1
    obtain ⟨rfl, rfl⟩ := e1
    have pB := World.block_lt_of_cell? w _ p0
    have p0 := (hbw.cell pB).trans p0
    have p1 := (hbw.cell (p := ⟨g, off + k * 3 + 1, none⟩) pB).trans p1
    have p2 := (hbw.cell (p := ⟨g, off + k * 3 + 2, none⟩) pB).trans p2
    have he := implStmtOk ss[k].k ss[k].x ss[k].y
    have hstep := all_take_succ (stmOk ss.length) ss k hlt
    have hbad := all_false (stmOk ss.length) ss k hlt
    rw [HALL.out, Bool.true_and] at hstep
    have HS : Hid _ := hstep
    have HB : Hid _ := hbad
    clear hstep hbad hc z0
    generalize hst : ss[k] = s at he p0 p1 p2 HS HB
    clear hst
    obtain ⟨sk, sx, sy⟩ := s
    simp only at he p0 p1 p2
    have hbx : Below W.heap.size W (wr.alloc (.cells #[.int .i64 sk, .int .i64 sx, .int .i64 sy] 92)) := hb.alloc hb.size _
    have hbxw : Below w.heap.size w (wr.alloc (.cells #[.int .i64 sk, .int .i64 sx, .int .i64 sy] 92)) := hbw.alloc hbw.size _
    have sx0 : (wr.alloc (.cells #[.int .i64 sk, .int .i64 sx, .int .i64 sy] 92)).heap.size = wr.heap.size + 1 := by simp
    cases hok : stmtOk sk sx sy
    · rw [hok] at he
      have HF : Hid _ := HB.out (by simp [stmOk, hok])
      clear HS HB
      go_wp2_with (go_at_call 136; refine (he _).mono ?_; rintro e w2 ⟨rfl, b2⟩)
      go_ret
      exact ⟨by rw [HF.out]; rfl, hbxw.trans (b2.mono hbxw.size)⟩
    · rw [hok] at he
      by_cases h7 : sk = 7
      · subst h7
        have hwi := within sy ss.length
        rw [wi_ge (stmtOk_jump hok)] at hwi
        by_cases hy : (ss.length : Int) ≤ sy
        · have HF : Hid _ := HB.out (by simp [stmOk, hok, hy])
          have hd : decide ((ss.length : Int) ≤ sy) = true := by simp [hy]
          rw [hd] at hwi
          clear HS HB hd
          go_wp2_with fail
          go_at_call 136
          refine (he _).mono ?_
          rintro e w2 ⟨rfl, b2⟩
          obtain ⟨hcc, hff⟩ := bcell b2
          have q2 : wr.heap.size < w2.heap.size := by have := b2.size; omega
          go_wp2_with (go_at_call 137; refine (hwi _).mono ?_; rintro e w3 ⟨rfl, rfl⟩)
          go_ret
          exact ⟨by rw [HF.out]; rfl, hbxw.trans (b2.mono hbxw.size)⟩
        · have HF : Hid ((ss.take (k + 1)).all (stmOk ss.length) = true) := HS.out.trans (by simp [stmOk, hok, hy])
          have hd : decide ((ss.length : Int) ≤ sy) = false := by simp; omega
          rw [hd] at hwi
          clear HS HB hd
          go_wp2_with fail
          go_at_call 136
          refine (he _).mono ?_
          rintro e w2 ⟨rfl, b2⟩
          obtain ⟨hcc, hff⟩ := bcell b2
          have q2 : wr.heap.size < w2.heap.size := by have := b2.size; omega
          go_wp2_with (go_at_call 137; refine (hwi _).mono ?_; rintro e w3 ⟨rfl, rfl⟩)
          go_roundw
          case rel => exact ⟨k + 1, by omega, by go_num, hbx.trans (b2.mono hbx.size), HF.out⟩
          case measure => simp [intOf]; omega
      · have HF : Hid ((ss.take (k + 1)).all (stmOk ss.length) = true) := HS.out.trans (by simp [stmOk, hok, h7])
        clear HS HB
        go_wp2_with fail
        go_at_call 136
        refine (he _).mono ?_
        rintro e w2 ⟨rfl, b2⟩
        obtain ⟨hcc, hff⟩ := bcell b2
        have q2 : wr.heap.size < w2.heap.size := by have := b2.size; omega
        have h7' : (sk == 7) = false := by simpa using h7
        go_wp2
        go_roundw
        case rel => exact ⟨k + 1, by omega, by go_num, hbx.trans (b2.mono hbx.size), HF.out⟩
        case measure => simp [intOf]; omega
  · have hkk : k = ss.length := by omega
    subst hkk
    go_wp2
    go_ret
    have hal := HALL.out
    rw [List.take_length] at hal
    exact ⟨by rw [hal, Bool.true_and]; rfl, hbw⟩

end Go.Proofs.Ytnjbihfceckpfaa
