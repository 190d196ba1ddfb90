/-
  Chapter 11, the specification's side: l11Entries.
-/
import Derived.Test.YtnjbihfceckpfaaG32EntM
import Derived.Test.YtnjbihfceckpfaaSpecTables
import Derived.Test.YtnjbihfceckpfaaRelTab
import Derived.BigRegion
import Derived.Deep.RegionHeld3
namespace Go.Proofs.Ytnjbihfceckpfaa
open Go.RowKit
set_option linter.unusedVariables false
set_option linter.unusedSimpArgs false
set_option maxHeartbeats 4000000
set_option maxRecDepth 20000

theorem OwnSS.grown {w w' : World} {base B : Nat} {v : Value} {us : List Value} {xss : List (List Int)} (h : OwnSS w base v us xss) (hg : w.grownBy w' (some B)) (hB : B < base) : OwnSS w' base v us xss :=
  ⟨own_same h.row (fun k hk => hg.block k (h.row.lt k hk).2 (fun e => by have := (h.row.lt k hk).1; have := Option.some.inj e; omega)),
   fun j u xs hj hx => own_same (h.each j u xs hj hx) (fun k hk => hg.block k ((h.each j u xs hj hx).lt k hk).2 (fun e => by have := ((h.each j u xs hj hx).lt k hk).1; have := Option.some.inj e; omega))⟩

/-- What l11Entries has: the sets at the entries, and the program. -/
structure LE (v : Value) (w : World) (n : Nat) (E : List Int) (wr : World) : Prop where
  o : wr.ownsRow (w.heap.size + 1) 2 1 (.slice (some ⟨w.heap.size + 1, 0, none⟩) n n) n (ints E)
  bl : Below w.heap.size w wr
  p : wr.heap[w.heap.size]? = some (.cells #[v] 30 (0, 0))

theorem LE.below {v : Value} {w : World} {n : Nat} {E : List Int} {wr wr' : World} (h : LE v w n E wr) (hb : Below wr.heap.size wr wr') : LE v w n E wr' :=
  ⟨own_kept h.o hb, h.bl.trans (hb.mono h.bl.size), (hb.block _ (Array.getElem?_eq_some_iff.1 h.p).1).trans h.p⟩
theorem LE.set {v : Value} {w : World} {n : Nat} {E : List Int} {wr : World} (h : LE v w n E wr) (j : Nat) (x : Int) : LE v w n (E.set j x) (wr.setCell ⟨w.heap.size + 1, j, none⟩ (.int .i64 x)) := by
  have hst := h.o.stored j (.int .i64 x)
  refine ⟨?_, h.bl.grown hst.2 h.bl.size (fun k hk => by cases hk; omega), (hst.2.block _ (Array.getElem?_eq_some_iff.1 h.p).1 (fun e => by have := Option.some.inj e; omega)).trans h.p⟩
  have e : ints (E.set j x) = (ints E).set j (.int .i64 x) := by simp [ints, List.map_set]
  rw [e]
  exact hst.1
theorem LE.cell {v : Value} {w : World} {n : Nat} {E : List Int} {wr : World} (h : LE v w n E wr) (hl : E.length = n) {j : Nat} (hj : j < n) : wr.cell? ⟨w.heap.size + 1, j, none⟩ = some (.int .i64 (E.getD j 0)) ∧ wr.frozen? ⟨w.heap.size + 1, j, none⟩ = false := by
  refine ⟨(h.o.cellAt j (by omega)).trans ?_, h.o.frozenAt j⟩
  simp [ints, List.getD, hl, hj]

def boolE : Value → Nat | .bool true => 1 | _ => 0
def roomE (w : World) (B n : Nat) : Nat := room ((List.range n).map fun i => intOf ((w.cell? ⟨B, i, none⟩).getD undef))
theorem LE.room {v : Value} {w : World} {n : Nat} {E : List Int} {wr : World} (h : LE v w n E wr) (hl : E.length = n) : roomE wr (w.heap.size + 1) n = room E := by
  unfold roomE
  congr 1
  refine List.ext_getElem (by simp [hl]) (fun i h1 h2 => ?_)
  have hi : i < n := by simpa using h1
  simp [(h.cell hl hi).1, intOf, List.getD, hl, hi]

theorem three9 {w : World} {b : Nat} {x0 x1 x2 : Value} {T : TypeId} (h : w.heap[b]? = some (.cells #[x0, x1, x2] T (0, 0))) : w.cell? ⟨b, 0, none⟩ = some x0 ∧ w.cell? ⟨b, 1, none⟩ = some x1 ∧ w.cell? ⟨b, 2, none⟩ = some x2 := by
  simp [World.cell?, h]

theorem done_step {c : Int} {ps : List (List Stm)} {I : Nat → Nat → List Int} {E : List Int} {i k : Nat} {hi : i < ps.length} {hk : k < ps[i].length} (h : ps[i][k].k = 8 → Sub (goesIn c I E i k) (E.getD ps[i][k].y.toNat 0)) :
    ∀ i' (hi' : i' < ps.length) q (hq : q < ps[i'].length), (i' < i ∨ (i' = i ∧ q < k + 1)) → (i' < i ∨ (i' = i ∧ q < k)) ∨ (ps[i'][q].k = 8 → Sub (goesIn c I E i' q) (E.getD ps[i'][q].y.toNat 0)) := fun i' hi' q hq hd => by
  by_cases e : i' = i ∧ q = k
  · obtain ⟨rfl, rfl⟩ := e; exact .inr h
  · left; rcases hd with h | ⟨h, h'⟩
    · exact .inl h
    · exact .inr ⟨h, by have : q ≠ k := fun e' => e ⟨h, e'⟩; omega⟩

theorem l11Entries (ps : List (List Stm)) (c : Int) (T : List (List Int)) (I : Nat → Nat → List Int) (v tv : Value) (w : World) (hc : c = 1 ∨ c = 2) (hp : CanP ps) (h1 : 1 ≤ ps.length) (h4 : ps.length ≤ 4) (hTl : T.length = ps.length) (hT : GoodN ps.length T) (hI : GoodI ps I)
    (hIN : ∀ i (hi : i < ps.length) R, IsInner (effN c T ps[i]) ps[i] R → ∀ k, k < ps[i].length → R.getD k [] = I i k) (hv : ReadsP w v ps) (ht : ReadsSS w tv T) :
    Calls Try.prog 41 #[.agg #[v], .int .i64 c, tv] w fun e w' => ∃ E a, e = .returned a ∧ E.length = ps.length ∧ IsEnt c ps I E ∧ w'.ownsRow w.heap.size 2 1 a ps.length (ints E) ∧ Below w.heap.size w w' := by
  obtain ⟨i0, hi0, hz0, hz1, hz2⟩ := info_parts infoInt
  have hv0 := hv
  obtain ⟨ao, cap, rfl, hcell⟩ := hv
  have hst := start_small hc
  have hes := enter_smalls hc
  have hb8 : i0.bytes * ps.length ≤ 281474976710656 := by rw [hz2]; omega
  have hmx : ps.length ≤ maxLen := by unfold maxLen; omega
  have hP0 := heap_alloc_new w (.cells #[.slice ao ps.length cap] 30)
  have hs0 : (w.alloc (.cells #[.slice ao ps.length cap] 30)).heap.size = w.heap.size + 1 := by simp
  have hb0 : Below w.heap.size w (w.alloc (.cells #[.slice ao ps.length cap] 30)) := by go_grown
  have hone : 0 < ps.length := by omega
  have hone' : (0 : Int) < (ps.length : Int) := by omega
  have hwp : w.heap.size + 1 ≤ (w.alloc (.cells #[.slice ao ps.length cap] 30)).heap.size := by omega
  go_enter Try.func41, Try.ntmps41
  go_wp2_with (at_make; refine wpList_make_full _ rfl _ _ 26 rfl (w.heap.size + 1) 2 i0 (.int .i64 0) 1 Try.underlying26 hi0 hz0 hz1 .i64 .i64 (ps.length : Int) (ps.length : Int) ps.length rfl rfl rfl rfl hb8 hmx hwp ?_; intro w6 own6 grow6; refine stop_of ?_)
  unfold Stop
  have e6 : (madeCells (Value.int .i64 0).cells (ps.length * 1)).toList = ints (List.replicate ps.length 0) := by
    have := toList_madeCells_one (.int .i64 0) ps.length
    rw [Nat.mul_one]
    exact this.trans (by simp [ints])
  rw [e6, hs0] at own6
  have S6 : LE (.slice ao ps.length cap) w ps.length (List.replicate ps.length 0) w6 := ⟨own6, hb0.grown grow6 hb0.size (by simp), (grow6.block _ (by omega) (by simp)).trans hP0⟩
  have HS6 : Hid _ := S6
  clear own6 e6 hP0 hb0 grow6 S6
  obtain ⟨c6, f6⟩ := HS6.out.cell (by simp) hone
  go_wp2_with fail
  go_at_call 68
  refine (specStart c _).mono ?_
  rintro e w7 ⟨rfl, b7⟩
  have HS7 : Hid _ := HS6.out.below b7
  obtain ⟨c7, f7⟩ := HS7.out.cell (by simp) hone
  clear c6 f6 b7 HS6
  have HS8 : Hid _ := HS7.out.set 0 (startAns c)
  go_wp2_with fail
  generalize w7.setCell ⟨w.heap.size + 1, 0, none⟩ (.int .i64 (startAns c)) = w8 at *
  clear c7 f7 HS7
  have E0S : Hid (EntS c ps I ((List.replicate ps.length 0).set 0 (startAns c))) := EntS.begin hc h1
  go_loopw [8] (fun av wr => ∃ (b : Bool) (E : List Int), av = .bool b ∧ LE (.slice ao ps.length cap) w ps.length E wr ∧ EntS c ps I E ∧ (b = false → IsEnt c ps I E)) (fun av wr => 2 * roomE wr (w.heap.size + 1) ps.length + boolE av)
  case atStart => exact ⟨true, _, rfl, HS8.out, E0S.out, fun h => by cases h⟩
  case round =>
    obtain ⟨b, E, rfl, S, hE, hD⟩ := hrel
    obtain ⟨wo, rfl⟩ : ∃ wo, wo = wr := ⟨wr, rfl⟩
    have HS : Hid _ := S
    have HE : Hid (EntS c ps I E) := hE
    clear HS8 E0S S hE
    cases b with
    | false =>
      have hI9 := hD rfl
      go_wp2_with fail
      go_ret
      exact ⟨E, _, rfl, HE.out.len, hI9, own_mono HS.out.o (by omega), HS.out.bl⟩
    | true =>
      clear hD
      go_wp2_with fail
      have SP : Hid (PsE c ps I E (fun a _ => a < 0) false E) := (PsE.begin HE.out).skip (fun i hi k hk h => absurd h (by omega))
      go_loopw [8, 9] (fun av iv wr => ∃ (i : Nat) (b : Bool) (E' : List Int), i ≤ ps.length ∧ iv = .int .i64 i ∧ av = .bool b ∧ LE (.slice ao ps.length cap) w ps.length E' wr ∧ PsE c ps I E (fun a _ => a < i) b E') (fun _ iv _ => ps.length - (intOf iv).toNat)
      case atStart => exact ⟨0, false, E, Nat.zero_le _, rfl, rfl, HS.out, SP.out⟩
      case round =>
        obtain ⟨i, b, E', hi, rfl, rfl, S, hP⟩ := hrel
        obtain ⟨wi, rfl⟩ : ∃ wi, wi = wr := ⟨wr, rfl⟩
        have HSi : Hid _ := S
        have HP : Hid (PsE c ps I E (fun a _ => a < i) b E') := hP
        clear SP S hP
        by_cases hlt : i < ps.length
        · have hlt' : (i : Int) < (ps.length : Int) := by omega
          obtain ⟨gp, op, u, rfl, hu0, hU⟩ := hcell i ps[i] (by simp [hlt])
          obtain ⟨au, cu, rfl, hc3⟩ := id hU
          have h12 : ps[i].length ≤ 12 := (procOk_parts (hp i hlt).1).2.1
          have hu := (HSi.out.bl.cell (World.block_lt_of_cell? w _ hu0)).trans hu0
          have hPc := (one_cell HSi.out.p).1
          have hin := l10Inner ps[i] c T _ tv wi hc (hp i hlt).1 (fun s hs => by rw [hTl]; exact (hp i hlt).2 s hs) (by rw [hTl]; exact hT) (reads3_below hU HSi.out.bl) (readsSS_below ht HSi.out.bl)
          go_wp2_with fail
          go_at_call 69
          refine hin.mono ?_
          rintro e wn ⟨R, a, ua, rfl, hRl, hRI, hOR, bn⟩
          have HSn : Hid _ := HSi.out.below bn
          have HR : Hid (∀ k, k < ps[i].length → R.getD k [] = I i k) := hIN i hlt R hRI
          have HO : Hid _ := hOR
          obtain ⟨ai, ci, rfl, hrc⟩ := hOR.reads
          have hzi : w.heap.size + 1 < wi.heap.size := (HSi.out.o.lt (w.heap.size + 1) rfl).2
          clear hin hu hPc bn hOR hRI hU
          go_wp2_with fail
          have SQ : Hid (PsE c ps I E (fun a q => a < i ∨ (a = i ∧ q < 0)) b E') := HP.out.skip (fun i' hi' k hk h => .inl (by omega))
          go_loopw [8, 11] (fun av kv wr => ∃ (k : Nat) (b : Bool) (E' : List Int), k ≤ ps[i].length ∧ kv = .int .i64 k ∧ av = .bool b ∧ LE (.slice (some ⟨gp, op, none⟩) ps.length cap) w ps.length E' wr ∧ PsE c ps I E (fun a q => a < i ∨ (a = i ∧ q < k)) b E' ∧ OwnSS wr wi.heap.size (.slice ai R.length ci) ua R) (fun _ kv _ => ps[i].length - (intOf kv).toNat)
          case atStart => exact ⟨0, b, E', Nat.zero_le _, rfl, rfl, HSn.out, SQ.out, HO.out⟩
          case round =>
            obtain ⟨k, b, E', hk, rfl, rfl, S, hP, hO⟩ := hrel
            have HSk : Hid _ := S
            have HPk : Hid (PsE c ps I E (fun a q => a < i ∨ (a = i ∧ q < k)) b E') := hP
            have HOk : Hid _ := hO
            clear SQ S hP HSn HO HP HSi
            by_cases hkl : k < ps[i].length
            · have hkl' : (k : Int) < (ps[i].length : Int) := by omega
              have hkR : k < R.length := by omega
              have hkR' : (k : Int) < (R.length : Int) := by omega
              obtain ⟨gs3, off3, rfl, k0, k1, k2⟩ := hc3 k ps[i][k] (by simp [hkl])
              have M0 := HSk.out.bl
              have k0 := (M0.cell (World.block_lt_of_cell? w _ k0)).trans k0
              have k1 := (M0.cell (World.block_lt_of_cell? w _ k1)).trans k1
              have k2 := (M0.cell (World.block_lt_of_cell? w _ k2)).trans k2
              have hu := (M0.cell (World.block_lt_of_cell? w _ hu0)).trans hu0
              have hPc := (one_cell HSk.out.p).1
              obtain ⟨ai', ci', e9, hrk⟩ := HOk.out.reads
              cases e9
              obtain ⟨gi, oi, uk, rfl, ck, hUK⟩ := hrk k (R.getD k []) (by simp [List.getD, hkR])
              rw [HR.out k hkl] at hUK
              have HRK : Hid (Smalls (I i k)) := hI i hlt k hkl
              obtain ⟨ce, fe⟩ := HSk.out.cell HPk.out.s.len hlt
              have hei6 := HPk.out.s.small i hlt
              obtain ⟨ei, hei⟩ : ∃ ei, E'.getD i 0 = ei := ⟨_, rfl⟩
              obtain ⟨rk, hrk9⟩ : ∃ rk, I i k = rk := ⟨_, rfl⟩
              rw [hei] at ce hei6
              rw [hrk9] at hUK HRK
              obtain ⟨sk, hsk⟩ : ∃ x, ps[i][k].k = x := ⟨_, rfl⟩
              obtain ⟨sx, hsx⟩ : ∃ x, ps[i][k].x = x := ⟨_, rfl⟩
              obtain ⟨sy, hsy⟩ : ∃ x, ps[i][k].y = x := ⟨_, rfl⟩
              rw [hsk] at k0
              rw [hsx] at k1
              rw [hsy] at k2
              have HSK : Hid _ := hsk
              have HSY : Hid _ := hsy
              clear hsk hsx hsy hrk fe
              have bW : Below wr.heap.size wr (wr.alloc (.cells #[.int .i64 sk, .int .i64 sx, .int .i64 sy] 92)) := by go_grown
              have HX : Hid ((wr.alloc (.cells #[.int .i64 sk, .int .i64 sx, .int .i64 sy] 92)).heap[wr.heap.size]? = some (.cells #[.int .i64 sk, .int .i64 sx, .int .i64 sy] 92 (0, 0))) := heap_alloc_new wr _
              have ck6 := (bW.cell (World.block_lt_of_cell? wr _ ck)).trans ck
              have ce6 := (bW.cell (World.block_lt_of_cell? wr _ ce)).trans ce
              have zk6 := World.block_lt_of_cell? _ _ ck6
              have zB6 := World.block_lt_of_cell? _ _ ce6
              have HUK : Hid (Reads (wr.alloc (.cells #[.int .i64 sk, .int .i64 sx, .int .i64 sy] 92)) uk (ints rk)) := reads_below hUK bW
              have HS6 : Hid _ := HSk.out.below bW
              have HO6 : Hid _ := HOk.out.below bW
              clear hUK ck ce
              go_wp2_with fail
              generalize wr.alloc (.cells #[.int .i64 sk, .int .i64 sx, .int .i64 sy] 92) = W6 at *
              clear k0 k1 k2 hu hPc
              --HELD a
              refine wp_region_held_drew (S := fun w' => w'.cell? ⟨gi, oi + k, none⟩ = some uk ∧ w'.cell? ⟨w.heap.size + 1, i, none⟩ = some (.int .i64 ei)) (by kernel_rfl) ⟨ck6, ce6⟩ (fun hHeld => ?_)
              refine wpAnyH_take (i := 0) (oi := ?oie0) (v := .slice (some ⟨gi, oi, none⟩) R.length ci) ?hie0 (by kernel_rfl) (by kernel_rfl) (by kernel_rfl) ?hqe0 ?hye0 hHeld ?hre0
              case hie0 =>
                simp only [List.getElem?_toArray, List.getElem?_cons_succ, List.getElem?_cons_zero]
                rfl
              case hqe0 => exact fun _ _ _ h => h
              case hye0 => exact Or.inl ⟨by kernel_rfl, fun w hSw => by go_simp⟩
              try simp only [Act.put, List.setIfInBounds_toArray, List.set_cons_zero, List.set_cons_succ]
              refine wpAnyH_take (i := 1) (oi := ?oie1) (v := .int .i64 (k : Int)) ?hie1 (by kernel_rfl) (by kernel_rfl) (by kernel_rfl) ?hqe1 ?hye1 hHeld ?hre1
              case hie1 =>
                simp only [List.getElem?_toArray, List.getElem?_cons_succ, List.getElem?_cons_zero]
                rfl
              case hqe1 => exact fun _ _ _ h => h
              case hye1 => exact Or.inl ⟨by kernel_rfl, fun w hSw => by go_simp⟩
              try simp only [Act.put, List.setIfInBounds_toArray, List.set_cons_zero, List.set_cons_succ]
              refine wpAnyH_take (i := 2) (oi := ?oie2) (v := .pointer (some ⟨gi, oi + k, none⟩)) ?hie2 (by kernel_rfl) (by kernel_rfl) (by kernel_rfl) ?hqe2 ?hye2 hHeld ?hre2
              case hie2 =>
                simp only [List.getElem?_toArray, List.getElem?_cons_succ, List.getElem?_cons_zero]
                rfl
              case hqe2 => exact fun _ _ _ h => h
              case hye2 => exact Or.inl ⟨by kernel_rfl, fun w hSw => by go_simp⟩
              try simp only [Act.put, List.setIfInBounds_toArray, List.set_cons_zero, List.set_cons_succ]
              refine wpAnyH_take (i := 3) (oi := ?oie3) (v := uk) ?hie3 (by kernel_rfl) (by kernel_rfl) (by kernel_rfl) ?hqe3 ?hye3 hHeld ?hre3
              case hie3 =>
                simp only [List.getElem?_toArray, List.getElem?_cons_succ, List.getElem?_cons_zero]
                rfl
              case hqe3 => exact fun _ _ _ h => h
              case hye3 => exact Or.inl ⟨by kernel_rfl, fun w hSw => by obtain ⟨s1, s2⟩ := hSw; go_simp⟩
              try simp only [Act.put, List.setIfInBounds_toArray, List.set_cons_zero, List.set_cons_succ]
              refine wpAnyH_take (i := 4) (oi := ?oie4) (v := .slice (some ⟨w.heap.size + 1, 0, none⟩) ps.length ps.length) ?hie4 (by kernel_rfl) (by kernel_rfl) (by kernel_rfl) ?hqe4 ?hye4 hHeld ?hre4
              case hie4 =>
                simp only [List.getElem?_toArray, List.getElem?_cons_succ, List.getElem?_cons_zero]
                rfl
              case hqe4 => exact fun _ _ _ h => h
              case hye4 => exact Or.inl ⟨by kernel_rfl, fun w hSw => by go_simp⟩
              try simp only [Act.put, List.setIfInBounds_toArray, List.set_cons_zero, List.set_cons_succ]
              refine wpAnyH_take (i := 5) (oi := ?oie5) (v := .int .i64 (i : Int)) ?hie5 (by kernel_rfl) (by kernel_rfl) (by kernel_rfl) ?hqe5 ?hye5 hHeld ?hre5
              case hie5 =>
                simp only [List.getElem?_toArray, List.getElem?_cons_succ, List.getElem?_cons_zero]
                rfl
              case hqe5 => exact fun _ _ _ h => h
              case hye5 => exact Or.inl ⟨by kernel_rfl, fun w hSw => by go_simp⟩
              try simp only [Act.put, List.setIfInBounds_toArray, List.set_cons_zero, List.set_cons_succ]
              refine wpAnyH_take (i := 6) (oi := ?oie6) (v := .pointer (some ⟨w.heap.size + 1, i, none⟩)) ?hie6 (by kernel_rfl) (by kernel_rfl) (by kernel_rfl) ?hqe6 ?hye6 hHeld ?hre6
              case hie6 =>
                simp only [List.getElem?_toArray, List.getElem?_cons_succ, List.getElem?_cons_zero]
                rfl
              case hqe6 => exact fun _ _ _ h => h
              case hye6 => exact Or.inl ⟨by kernel_rfl, fun w hSw => by go_simp⟩
              try simp only [Act.put, List.setIfInBounds_toArray, List.set_cons_zero, List.set_cons_succ]
              refine wpAnyH_take (i := 7) (oi := ?oie7) (v := .int .i64 ei) ?hie7 (by kernel_rfl) (by kernel_rfl) (by kernel_rfl) ?hqe7 ?hye7 hHeld ?hre7
              case hie7 =>
                simp only [List.getElem?_toArray, List.getElem?_cons_succ, List.getElem?_cons_zero]
                rfl
              case hqe7 => exact fun _ _ _ h => h
              case hye7 => exact Or.inl ⟨by kernel_rfl, fun w hSw => by obtain ⟨s1, s2⟩ := hSw; go_simp⟩
              try simp only [Act.put, List.setIfInBounds_toArray, List.set_cons_zero, List.set_cons_succ]
              refine wpAnyH_ready (rs := [8]) (by kernel_rfl) (by simp) ?_
              refine (AllReadyH.cons (o := ?ooe8) ?hoe8 (fun K hK => ?hke8) AllReadyH.nil)
              case hoe8 =>
                simp only [List.getElem?_toArray, List.getElem?_cons_succ, List.getElem?_cons_zero]
                rfl
              case hke8 =>
                go_simp
                go_at_call 70
                refine (l6Image rk ei uk W6.drew HRK.out hei6 (reads_below HUK.out (Below.drew (Below.refl _ _)))).mono ?_
                rintro e w7 ⟨rfl, b7⟩
                have B7 : Hid (Below W6.heap.size W6 w7) := (Below.drew (Below.refl W6.heap.size W6)).trans b7
                clear b7
                try go_wp2_with fail
                refine hK.out _ _ ⟨(B7.out.cell zk6).trans ck6, (B7.out.cell zB6).trans ce6⟩ (fun hHeld => ?_)
                clear hK K
                try simp only [Act.put, List.setIfInBounds_toArray, List.set_cons_zero, List.set_cons_succ]
                refine wpAnyH_take (i := 9) (oi := ?oie9) (v := .int .i64 (img rk ei)) ?hie9 (by kernel_rfl) (by kernel_rfl) (by kernel_rfl) ?hqe9 ?hye9 hHeld ?hre9
                case hie9 =>
                  simp only [List.getElem?_toArray, List.getElem?_cons_succ, List.getElem?_cons_zero]
                  rfl
                case hqe9 => exact fun _ _ _ h => h
                case hye9 => exact Or.inl ⟨by kernel_rfl, fun w hSw => by go_simp⟩
                try simp only [Act.put, List.setIfInBounds_toArray, List.set_cons_zero, List.set_cons_succ]
                refine wpAnyH_done (by kernel_rfl) ?_ _
              --DLEH a
                obtain ⟨t0, t1, t2⟩ := three9 ((B7.out.block _ (Array.getElem?_eq_some_iff.1 HX.out).1).trans HX.out)
                have HS7 : Hid _ := HS6.out.below B7.out
                have HO7 : Hid _ := HO6.out.below B7.out
                obtain ⟨st, hst9⟩ : ∃ st, img rk ei = st := ⟨_, rfl⟩
                have hsts : Small st := by rw [← hst9]; exact img_small HRK.out ei
                have HGI : Hid (goesIn c I E' i k = img (enterAns c) st) := by show goesIn c I E' i k = _; unfold goesIn; rw [hrk9, hei, hst9]
                rw [hst9]
                clear HS6 HO6 ck6 ce6 zk6 zB6 HUK bW HX hHeld hst9 hei HRK hei6 HSk HOk
                by_cases h8 : sk = 8
                · subst h8
                  by_cases hs0 : st = 0
                  · subst hs0
                    go_wp2_with fail
                    go_roundw
                    case rel => exact ⟨k + 1, b, E', by omega, by go_num, rfl, HS7.out, HPk.out.skip (done_step (hi := hlt) (hk := hkl) (fun _ => by rw [HGI.out, img_zero hes]; exact sub_zero _)), HO7.out⟩
                    case measure => simp [intOf]; omega
                  · obtain ⟨y, hy, hyl⟩ := call_y hp hlt hkl HSK.out
                    rw [HSY.out] at hy
                    subst hy
                    have hyl' : (y : Int) < (ps.length : Int) := by omega
                    go_wp2_with fail
                    go_at_call 71
                    refine (specEnter c _).mono ?_
                    rintro e w9 ⟨a9, rfl, o9, b9⟩
                    have HRD : Hid (Reads w9 a9 (ints (enterAns c))) := reads_own o9
                    have him := l6Image (enterAns c) st a9 w9 hes hsts HRD.out
                    clear o9
                    go_wp2_with fail
                    go_at_call 70
                    refine him.mono ?_
                    rintro e wA ⟨rfl, bA⟩
                    have BA : Hid (Below w7.heap.size w7 wA) := b9.trans (bA.mono b9.size)
                    have HSA : Hid _ := HS7.out.below BA.out
                    have HOA : Hid _ := HO7.out.below BA.out
                    have t0 := (BA.out.cell (World.block_lt_of_cell? w7 _ t0)).trans t0
                    have t2 := (BA.out.cell (World.block_lt_of_cell? w7 _ t2)).trans t2
                    obtain ⟨cy, fy⟩ := HSA.out.cell HPk.out.s.len hyl
                    have hys := HPk.out.s.small y hyl
                    obtain ⟨ey, hey⟩ : ∃ ey, E'.getD y 0 = ey := ⟨_, rfl⟩
                    rw [hey] at cy hys
                    obtain ⟨gn, hgn⟩ : ∃ gn, img (enterAns c) st = gn := ⟨_, rfl⟩
                    have hgs9 : Small gn := by rw [← hgn]; exact img_small hes st
                    rw [hgn] at HGI
                    obtain ⟨lo, hlo⟩ : ∃ lo, bits .or .i64 ey gn = lo := ⟨_, rfl⟩
                    have HLO : Hid (lor ey gn = lo) := hlo
                    have HEY : Hid (E'.getD y 0 = ey) := hey
                    rw [hgn]
                    clear him b9 bA HRD hgn hey
                    go_wp2_with fail
                    go_region
                    by_cases hne : lo = ey
                    · subst hne
                      go_wp2_with fail
                      go_roundw
                      case rel => exact ⟨k + 1, b, E', by omega, by go_num, rfl, HSA.out.below (Below.drew (Below.refl _ _)), HPk.out.skip (done_step (hi := hlt) (hk := hkl) (fun _ => by rw [HGI.out, HSY.out, Int.toNat_natCast, HEY.out]; exact sub_of_lor hys hgs9 HLO.out)), HOA.out.below (Below.drew (Below.refl _ _))⟩
                      case measure => simp [intOf]; omega
                    · go_wp2_with fail
                      go_region
                      have HSB : Hid _ := (HSA.out.below (Below.drew (Below.refl wA.heap.size wA))).set y lo
                      have HOB : Hid _ := (HOA.out.below (Below.drew (Below.refl wA.heap.size wA))).grown ((HSA.out.below (Below.drew (Below.refl wA.heap.size wA))).o.stored y (.int .i64 lo)).2 (by omega)
                      have HPB : Hid (PsE c ps I E (fun a q => a < i ∨ (a = i ∧ q < k + 1)) true (E'.set y lo)) := by
                        have := HPk.out.put hc hp hI (Done' := fun a q => a < i ∨ (a = i ∧ q < k + 1)) hlt hkl HSK.out HSY.out hyl (by rw [HEY.out, HGI.out, HLO.out]; exact hne)
                        rw [HEY.out, HGI.out, HLO.out] at this
                        exact this
                      go_wp2_with fail
                      go_roundw
                      case rel => exact ⟨k + 1, true, E'.set y lo, by omega, by go_num, rfl, HSB.out.below (Below.drew (Below.refl _ _)), HPB.out, HOB.out.below (Below.drew (Below.refl _ _))⟩
                      case measure => simp [intOf]; omega
                · go_wp2_with fail
                  go_roundw
                  case rel => exact ⟨k + 1, b, E', by omega, by go_num, rfl, HS7.out, HPk.out.skip (done_step (hi := hlt) (hk := hkl) (fun h => absurd (HSK.out ▸ h) h8)), HO7.out⟩
                  case measure => simp [intOf]; omega
            · have hkk : k = ps[i].length := by omega
              subst hkk
              go_wp2_with fail
              go_roundw
              case rel => exact ⟨i + 1, b, E', by omega, by go_num, rfl, HSk.out, HPk.out.skip (fun i' hi' q hq h => .inl (by
                by_cases e : i' = i
                · subst e; exact .inr ⟨rfl, hq⟩
                · exact .inl (by omega)))⟩
              case measure => simp [intOf]; omega
        · have hii : i = ps.length := by omega
          subst hii
          go_wp2_with fail
          have r1 := HSi.out.room HP.out.s.len
          have r2 := HS.out.room HE.out.len
          refine ⟨⟨b, E', rfl, HSi.out, HP.out.s, fun hb => ?_⟩, ?_⟩
          · subst hb
            exact HP.out.done (fun i hi k hk => hi)
          · rw [r1, r2]
            rcases HP.out.st with ⟨rfl, rfl, _⟩ | ⟨rfl, h⟩
            · simp [boolE]
            · simp [boolE]; exact h

end Go.Proofs.Ytnjbihfceckpfaa
