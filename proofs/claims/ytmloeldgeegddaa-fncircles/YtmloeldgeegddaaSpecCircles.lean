/-
  spec.l9Circles, spec.Circles.
-/
import Derived.Test.YtmloeldgeegddaaSpecReach9
import Derived.Test.YtmloeldgeegddaaG20BeforeBoth
import Derived.Test.YtmloeldgeegddaaG13CloneI
import Derived.Test.YtmloeldgeegddaaSortI
import Derived.Deep.AppendLies
namespace Go.Proofs.Ytmloeldgeegddaa
open Go.RowKit
set_option linter.unusedVariables false
set_option maxHeartbeats 4000000
set_option maxRecDepth 20000

/-- What l1Has says of who comes to whom. -/
theorem has_reach {ps : List (List Stm)} {r : Nat → Nat → Bool} {c o : List (List Nat)} (hG : Groups ps r c o) {i k : Nat} (hi : i < ps.length) {A : List Int} (hA : IsReach (callG ps) i A) : A.any (fun x => decide (x = (k : Int))) = r i k := by
  rw [hasI_mem, Bool.eq_iff_iff, decide_eq_true_eq, hA.2, hG.rel i k hi]
  constructor
  · rintro ⟨j, e, h⟩
    have : k = j := by omega
    subst this
    exact h
  · intro h
    exact ⟨k, rfl, h⟩

theorem groups_self {ps : List (List Stm)} {r : Nat → Nat → Bool} {c o : List (List Nat)} (hG : Groups ps r c o) {i : Nat} (hi : i < ps.length) : i ∈ grp ps.length r i := by
  have h := (hG.rel i i hi).2 (CR.refl _ _)
  unfold grp
  exact List.mem_filter.2 ⟨List.mem_range.2 hi, by rw [h]; rfl⟩

/-- The first k of a group. -/
def grpU (k : Nat) (r : Nat → Nat → Bool) (i : Nat) : List Nat := (List.range k).filter (fun q => r i q && r q i)

theorem grpU_succ (k : Nat) (r : Nat → Nat → Bool) (i : Nat) : grpU (k + 1) r i = if (r i k && r k i) = true then grpU k r i ++ [k] else grpU k r i := by
  unfold grpU
  rw [List.range_succ, List.filter_append]
  cases h : (r i k && r k i) <;> simp [h]

theorem grpU_len (k : Nat) (r : Nat → Nat → Bool) (i : Nat) : (grpU k r i).length ≤ k := by
  unfold grpU
  have := List.length_filter_le (fun q => r i q && r q i) (List.range k)
  simpa using this

theorem stepS_len (n : Nat) (r : Nat → Nat → Bool) (out : List (List Nat)) (i : Nat) : (stepS n r out i).length ≤ out.length + 1 := by
  unfold stepS
  cases Nat.beq (hd (grp n r i)) i
  · simp only [cond]; omega
  · simp only [cond, List.length_append, List.length_singleton]; omega

theorem foldS_len (n : Nat) (r : Nat → Nat → Bool) : ∀ (k : Nat), ((List.range k).foldl (stepS n r) []).length ≤ k
  | 0 => by simp
  | k + 1 => by
    have h1 := foldS_len n r k
    rw [List.range_succ, List.foldl_append]
    have h2 := stepS_len n r ((List.range k).foldl (stepS n r) []) k
    exact Nat.le_trans h2 (by omega)

theorem l9Circles (ps : List (List Stm)) (r : Nat → Nat → Bool) (c o : List (List Nat)) (hok : programOk ps = true) (hG : Groups ps r c o) (v : Value) (w : World) (hv : ReadsP w v ps) :
    Calls Try.prog 89 #[.agg #[v]] w fun e w' => ∃ u us, e = .returned u ∧ OwnSS w' w.heap.size u us (castLL c) ∧ Below w.heap.size w w' := by
  obtain ⟨i0, hi, hz0, hz1, hz2⟩ := info_parts infoInt
  obtain ⟨i1, hjS, hy0, hy1, hy2⟩ := info_parts infoSlice
  obtain ⟨h4, h1, _⟩ := programOk_len hok
  have hgr := graph_of hok
  have hre : ∀ i : Nat, i < ps.length → ∃ A, IsReach (callG ps) i A ∧ A.length ≤ maxLen := fun i hi => by
    obtain ⟨A, hA⟩ := isReach_some hgr hi
    exact ⟨A, hA, by have := isReach_len hgr hi hA; unfold maxLen; omega⟩
  have HRE : Hid _ := hre
  have HCC : Hid (circS ps.length r = c) := hG.circ
  have hb0 : Below w.heap.size w ((w.alloc (.cells #[v] 26)).alloc (.cells #[] 30)) := by go_grown
  have z0 : (w.alloc (.cells #[v] 26)).heap.size = w.heap.size + 1 := by simp
  have m0 := made0S (w.alloc (.cells #[v] 26))
  rw [z0] at m0
  have H0 : ((w.alloc (.cells #[v] 26)).alloc (.cells #[] 30)).heap[w.heap.size]? = some (.cells #[v] 26 (0, 0)) := (old_block (by omega)).trans (heap_alloc_new w _)
  obtain ⟨vo, vc, hvv⟩ : ∃ ao cap, v = .slice ao ps.length cap := by obtain ⟨ao, cap, rfl, _⟩ := hv; exact ⟨_, _, rfl⟩
  have HV : Hid (ReadsP w v ps) := hv
  subst hvv
  have hps4 : (ps.length : Int) ≤ 4 := by omega
  have HM0 : Hid _ := m0
  clear hre m0 hv
  go_enter Try.func89, Try.ntmps89
  go_wp2
  generalize (w.alloc (.cells #[.slice vo ps.length vc] 26)).alloc (.cells #[] 30) = W0 at *
  go_loopw [3, 4] (fun ov iv wr => ∃ (k : Nat) (us : List Value), k ≤ ps.length ∧ iv = .int .i64 k ∧ OwnSS wr (w.heap.size + 1) ov us (castLL ((List.range k).foldl (stepS ps.length r) [])) ∧ Below w.heap.size w wr ∧ wr.heap[w.heap.size]? = some (.cells #[.slice vo ps.length vc] 26 (0, 0))) (fun _ iv _ => ps.length - (intOf iv).toNat)
  case atStart => exact ⟨0, [], Nat.zero_le _, rfl, HM0.out, hb0, H0⟩
  case round =>
    obtain ⟨i, us, hik, rfl, hO, hL, hX⟩ := hrel
    clear HM0 H0 hb0
    obtain ⟨wi, hwi⟩ : ∃ x, x = wr := ⟨_, rfl⟩
    subst hwi
    have HO : Hid _ := hO
    have HX : Hid (wi.heap[w.heap.size]? = some (.cells #[.slice vo ps.length vc] 26 (0, 0))) := hX
    have HL : Hid (Below w.heap.size w wi) := hL
    obtain ⟨cx, _⟩ := one_cell hX
    have zx : w.heap.size < wi.heap.size := (Array.getElem?_eq_some_iff.1 hX).1
    by_cases hlt : i < ps.length
    · have hlt' : (i : Int) < (ps.length : Int) := by omega
      have bI : Below wi.heap.size wi (wi.alloc (.cells #[] 2)) := by go_grown
      have mI := made0 wi
      have HBI : Hid _ := bI
      have HMI : Hid ((wi.alloc (.cells #[] 2)).ownsRow wi.heap.size 2 1 (.slice (some ⟨wi.heap.size, 0, none⟩) 0 0) 0 []) := mI
      clear hO hX hL bI mI
      go_wp2
      go_loopw [5, 6] (fun gv kv wr => ∃ (k : Nat), k ≤ ps.length ∧ kv = .int .i64 k ∧ wr.ownsRow wi.heap.size 2 1 gv (grpU k r i).length (nats (grpU k r i)) ∧ Below wi.heap.size wi wr) (fun _ kv _ => ps.length - (intOf kv).toNat)
      case atStart => exact ⟨0, Nat.zero_le _, rfl, by simpa [grpU, nats, ints] using HMI.out, HBI.out⟩
      case round =>
        obtain ⟨k, hkk, rfl, hown, hB⟩ := hrel
        clear HMI HBI
        have HOW : Hid _ := hown
        have HB : Hid (Below wi.heap.size wi wr) := hB
        have zB := hB.size
        have LW : Below w.heap.size w wr := HL.out.trans (hB.mono HL.out.size)
        have cx := (one_cell ((hB.block w.heap.size zx).trans HX.out)).1
        have hgl := grpU_len k r i
        by_cases hlk : k < ps.length
        · have hlk' : (k : Int) < (ps.length : Int) := by omega
          obtain ⟨A, hA, hAl⟩ := HRE.out i hlt
          obtain ⟨A', hA', hAl'⟩ := HRE.out k hlk
          have hc1 := l9Reach ps i A (.slice vo ps.length vc) wr hok hlt hA (readsP_below HV.out LW)
          have hsn := grpU_succ k r i
          have hr1 := has_reach hG hlt (k := k) hA
          have hr2 := has_reach hG hlk (k := i) hA'
          have HSN : Hid _ := hsn
          clear hsn hown hB
          go_wp2_with fail
          go_at_call 91
          refine hc1.mono ?_
          rintro e w2 ⟨g2, c2, rfl, own2, b2⟩
          clear hc1
          have z2 := b2.size
          have hh1 := l1Has A (k : Int) _ w2 hAl (reads_own own2)
          rw [hr1] at hh1
          have LW2 := LW.trans (b2.mono LW.size)
          have B2 : Below wi.heap.size wi w2 := HB.out.trans (b2.mono zB)
          have O2 : Hid _ := own_kept HOW.out b2
          cases hrk : r i k with
          | false =>
            rw [hrk] at hh1 HSN
            have HP : Hid (grpU (k + 1) r i = grpU k r i) := HSN.out.trans (by simp)
            clear hr1 hr2 hrk
            go_wp2_with fail
            go_at_call 90
            refine hh1.mono ?_
            rintro e w3 ⟨rfl, b3⟩
            clear hh1
            go_wp2
            go_roundw
            case rel => exact ⟨k + 1, by omega, by go_num, by rw [HP.out]; exact own_kept O2.out b3, B2.trans (b3.mono B2.size)⟩
            case measure => simp [intOf]; omega
          | true =>
            rw [hrk] at hh1 HSN
            clear hr1
            go_wp2_with fail
            go_at_call 90
            refine hh1.mono ?_
            rintro e w3 ⟨rfl, b3⟩
            clear hh1
            have z3 := b3.size
            have LW3 := LW2.trans (b3.mono LW2.size)
            have B3 : Below wi.heap.size wi w3 := B2.trans (b3.mono B2.size)
            have O3 : Hid _ := own_kept O2.out b3
            have cx3 := (one_cell ((B3.block w.heap.size zx).trans HX.out)).1
            have hc2 := l9Reach ps k A' (.slice vo ps.length vc) w3 hok hlk hA' (readsP_below HV.out LW3)
            go_wp2_with fail
            go_at_call 91
            refine hc2.mono ?_
            rintro e w4 ⟨g4, c4, rfl, own4, b4⟩
            clear hc2
            have z4 := b4.size
            have hh2 := l1Has A' (i : Int) _ w4 hAl' (reads_own own4)
            rw [hr2] at hh2
            have B4 : Below wi.heap.size wi w4 := B3.trans (b4.mono B3.size)
            have O4 : Hid _ := own_kept O3.out b4
            cases hrk2 : r k i with
            | false =>
              rw [hrk2] at hh2 HSN
              have HP : Hid (grpU (k + 1) r i = grpU k r i) := HSN.out.trans (by simp)
              clear hr2 hrk hrk2
              go_wp2_with fail
              go_at_call 90
              refine hh2.mono ?_
              rintro e w5 ⟨rfl, b5⟩
              clear hh2
              go_wp2
              go_roundw
              case rel => exact ⟨k + 1, by omega, by go_num, by rw [HP.out]; exact own_kept O4.out b5, B4.trans (b5.mono B4.size)⟩
              case measure => simp [intOf]; omega
            | true =>
              rw [hrk2] at hh2 HSN
              have HP : Hid (grpU (k + 1) r i = grpU k r i ++ [k]) := HSN.out.trans (by simp)
              clear hr2 hrk hrk2
              go_wp2_with fail
              go_at_call 90
              refine hh2.mono ?_
              rintro e w5 ⟨rfl, b5⟩
              clear hh2
              have z5 := b5.size
              have B5 : Below wi.heap.size wi w5 := B4.trans (b5.mono B4.size)
              have O5 := own_kept O4.out b5
              have OA : Hid _ := O5.alloc (.cells #[.int .i64 (k : Int)] 2)
              have BA : Hid (Below wi.heap.size wi (w5.alloc (.cells #[.int .i64 (k : Int)] 2))) := B5.alloc B5.size _
              have OL : Hid _ := O5.lt
              clear O5
              go_wp2_with (first
                | (at_builtin; refine wpList_append_own _ rfl (.tmp 35) (.tmp 37) 30 rfl wi.heap.size 2 i0 (.int .i64 0) 1 8 Try.underlying30 hi hz0 hz1 hz2 rfl (by decide) _ _ _ rfl OA.out ⟨w5.heap.size, 0, none⟩ 1 _ [.int .i64 (k : Int)] rfl rfl (cell_one w5 k) (ints_oneCell [(k : Int)]) (by unfold maxLen; omega) (by omega) (by simp; omega) ?_; intro v6 w6 own6 grow6 _)
                | fail)
              have B6 : Below wi.heap.size wi w6 := below_app BA.out grow6 (fun q hq => (OL.out q hq).1)
              have own7 : Hid (w6.ownsRow wi.heap.size 2 1 v6 (grpU k r i ++ [k]).length (nats (grpU k r i ++ [k]))) := by
                have e : nats (grpU k r i ++ [k]) = nats (grpU k r i) ++ [.int .i64 (k : Int)] := by simp [nats, ints]
                show w6.ownsRow wi.heap.size 2 1 v6 (grpU k r i ++ [k]).length (nats (grpU k r i ++ [k]))
                rw [e, List.length_append]
                exact own6
              go_roundw
              case rel => exact ⟨k + 1, by omega, by go_num, by rw [HP.out]; exact own7.out, B6⟩
              case measure => simp [intOf]; omega
        · obtain rfl : k = ps.length := by omega
          have hge : ¬ (ps.length : Int) < (ps.length : Int) := by omega
          have hgrp : grpU ps.length r i = grp ps.length r i := rfl
          have hmem := groups_self hG hlt
          have hg1 : 0 < (grp ps.length r i).length := List.length_pos_of_mem hmem
          rw [hgrp] at hown hgl
          obtain ⟨gg, gc, hgv⟩ : ∃ gg gc, u5 = .slice (some ⟨gg, 0, none⟩) (grp ps.length r i).length gc := by
            rcases own_shape hown with ⟨_, e, _⟩ | ⟨gg, cp, e, _⟩
            · omega
            · exact ⟨gg, cp, e⟩
          subst hgv
          have cg0 : wr.cell? ⟨gg, 0, none⟩ = some (.int .i64 (hd (grp ps.length r i) : Nat)) := by
            rw [hown.cellAt 0 (by omega), nats_get hg1]
            rfl
          have hsn : (List.range (i + 1)).foldl (stepS ps.length r) [] = stepS ps.length r ((List.range i).foldl (stepS ps.length r) []) i := by rw [List.range_succ, List.foldl_append]; rfl
          have hfl := foldS_len ps.length r i
          have OS := HO.out.below hB
          have HOG : Hid (wr.ownsRow wi.heap.size 2 1 (.slice (some ⟨gg, 0, none⟩) (grp ps.length r i).length gc) (grp ps.length r i).length (nats (grp ps.length r i))) := hown
          obtain ⟨G, hGG⟩ : ∃ G, grp ps.length r i = G := ⟨_, rfl⟩
          obtain ⟨F, hFF⟩ : ∃ F, (List.range i).foldl (stepS ps.length r) [] = F := ⟨_, rfl⟩
          rw [hGG] at cg0 hg1 hgl HOG
          rw [hFF] at hsn hfl OS
          have HSN : Hid _ := hsn
          have HGG : Hid _ := hGG
          have hgi : (0 : Int) < (G.length : Int) := by omega
          have LWx : Hid (Below w.heap.size w wr) := LW
          have Xr : Hid _ := (hB.block w.heap.size zx).trans HX.out
          have HOS : Hid (OwnSS wr (w.heap.size + 1) u3 us (castLL F)) := OS
          have hFl : (castLL F).length = F.length := by simp [castLL]
          have hFx : F.length ≤ 4 := by omega
          rw [hGG]
          by_cases hbe : hd G = i
          · have hbt : ((hd G : Int) == (i : Int)) = true := by rw [hbe]; simp
            have HE : Hid (stepS ps.length r F i = F ++ [G]) := by
              show stepS ps.length r F i = F ++ [G]
              unfold stepS
              rw [HGG.out, hbe, Nat.beq_refl]
              rfl
            have BA : Below wr.heap.size wr (wr.alloc (.cells #[.slice (some ⟨gg, 0, none⟩) G.length gc] 30)) := by go_grown
            have OA := OS.below BA
            have hrow := OA.row
            rw [hFl] at hrow
            have HROW : Hid ((wr.alloc (.cells #[.slice (some ⟨gg, 0, none⟩) G.length gc] 30)).ownsRow (w.heap.size + 1) 30 1 u3 F.length us) := hrow
            have HC1 : Hid (∀ (j : Nat) (u : Value), [Value.slice (some ⟨gg, 0, none⟩) G.length gc][j]? = some u → (wr.alloc (.cells #[.slice (some ⟨gg, 0, none⟩) G.length gc] 30)).cell? ((⟨wr.heap.size, 0, none⟩ : Addr).add j) = some u) := by
              have := World.news_of_block (heap_alloc_new wr (.cells #[.slice (some ⟨gg, 0, none⟩) G.length gc] 30))
              simp at this
              exact this
            have HOA : Hid (OwnSS (wr.alloc (.cells #[.slice (some ⟨gg, 0, none⟩) G.length gc] 30)) (w.heap.size + 1) u3 us (castLL F)) := OA
            have HGA : Hid ((wr.alloc (.cells #[.slice (some ⟨gg, 0, none⟩) G.length gc] 30)).ownsRow (w.heap.size + 1) 2 1 (.slice (some ⟨gg, 0, none⟩) G.length gc) (G.map (fun x : Nat => (x : Int))).length (ints (G.map (fun x : Nat => (x : Int))))) := by
              show World.ownsRow _ _ _ _ _ _ _
              rw [List.length_map]
              exact own_kept (own_mono HOG.out (by omega)) BA
            have LA : Hid (Below w.heap.size w (wr.alloc (.cells #[.slice (some ⟨gg, 0, none⟩) G.length gc] 30))) := LW.trans (BA.mono LW.size)
            have XA : Hid _ := (BA.block w.heap.size (by omega)).trans Xr.out
            clear hown hGG hsn OS BA OA hrow hFF hgrp HOG hbe hmem hFl LW
            go_wp2_with (first
              | (at_builtin; refine wpList_append_own _ rfl (.tmp 44) (.tmp 46) 52 rfl (w.heap.size + 1) 30 i1 (.slice none 0 0) 1 24 Try.underlying52 hjS hy0 hy1 hy2 rfl (by decide) u3 F.length us rfl HROW.out ⟨wr.heap.size, 0, none⟩ 1 _ [.slice (some ⟨gg, 0, none⟩) G.length gc] rfl rfl HC1.out (by intro y hy; simp at hy; subst hy; rfl) (by unfold maxLen; omega) (by omega) (by simp; omega) ?_; intro v6 w6 own6 grow6 _)
              | fail)
            have L6 : Below w.heap.size w w6 := below_app LA.out grow6 (fun q hq => by have := (HROW.out.lt q hq).1; omega)
            have X6 := (grow6.block w.heap.size (by simp; omega) (fun e => by have := (HROW.out.lt _ e.symm).1; omega)).trans XA.out
            have O6 : Hid (OwnSS w6 (w.heap.size + 1) v6 (us ++ [.slice (some ⟨gg, 0, none⟩) G.length gc]) (castLL (F ++ [G]))) := by
              have e1 : castLL (F ++ [G]) = castLL F ++ [G.map (fun x : Nat => (x : Int))] := by simp [castLL]
              show OwnSS _ _ _ _ _
              rw [e1]
              exact HOA.out.appended HGA.out (by simpa [castLL] using own6) grow6
            go_roundw
            case rel => exact ⟨i + 1, _, by omega, by go_num, by rw [HSN.out, HE.out]; exact O6.out, L6, X6⟩
            case measure => simp [intOf]; omega
          · have hbf : ((hd G : Int) == (i : Int)) = false := by simp; omega
            have hbf2 : ¬ (hd G : Int) = (i : Int) := by omega
            have HE : Hid (stepS ps.length r F i = F) := by
              show stepS ps.length r F i = F
              unfold stepS
              have : Nat.beq (hd G) i = false := by
                cases hb : Nat.beq (hd G) i with
                | false => rfl
                | true => exact absurd (Nat.eq_of_beq_eq_true hb) hbe
              rw [HGG.out, this]
              rfl
            clear hown hGG hsn OS hFF hgrp HOG hbe hmem hFl LW
            go_wp2
            go_roundw
            case rel => exact ⟨i + 1, us, by omega, by go_num, by rw [HSN.out, HE.out]; exact HOS.out, LWx.out, Xr.out⟩
            case measure => simp [intOf]; omega
    · obtain rfl : i = ps.length := by omega
      have hge : ¬ (ps.length : Int) < (ps.length : Int) := by omega
      clear hO hX
      go_wp2
      go_ret
      refine ⟨_, rfl, ⟨us, ?_⟩, hL⟩
      rw [← HCC.out]
      exact HO.out.mono (by omega)

end Go.Proofs.Ytmloeldgeegddaa
