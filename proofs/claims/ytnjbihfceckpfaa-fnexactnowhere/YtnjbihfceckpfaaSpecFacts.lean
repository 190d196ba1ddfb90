/-
  Chapter 11, the specification's side: l11Facts, Facts.
-/
import Derived.Test.YtnjbihfceckpfaaG39SpecEntT
namespace Go.Proofs.Ytnjbihfceckpfaa
open Go.RowKit
set_option linter.unusedVariables false
set_option linter.unusedSimpArgs false
set_option maxHeartbeats 4000000
set_option maxRecDepth 20000

theorem rowF_len (I : Nat → Nat → List Int) (E : List Int) (i n : Nat) : (rowF I E i n).length = n := by simp [rowF]
theorem rowF_take (I : Nat → Nat → List Int) (E : List Int) (i n : Nat) {k : Nat} (hk : k < n) : (rowF I E i n).take (k + 1) = (rowF I E i n).take k ++ [img (I i k) (E.getD i 0)] := by
  rw [List.take_succ_eq_append_getElem (by rw [rowF_len]; exact hk)]
  simp [rowF]
theorem factL_len (ps : List (List Stm)) (I : Nat → Nat → List Int) (E : List Int) : (factL ps I E).length = ps.length := by simp [factL]
theorem factL_take (ps : List (List Stm)) (I : Nat → Nat → List Int) (E : List Int) {i : Nat} (hi : i < ps.length) : (factL ps I E).take (i + 1) = (factL ps I E).take i ++ [rowF I E i ps[i].length] := by
  rw [List.take_succ_eq_append_getElem (by rw [factL_len]; exact hi)]
  simp [factL, List.getD, hi]

theorem one_slice {w : World} {base : Nat} {e : TypeId} {v : Value} {n : Nat} {xs : List Value} (h : w.ownsRow base e 1 v n xs) : ∀ y ∈ [v], y.oneCell' = true := by
  rcases h.2 with ⟨rfl, _⟩ | ⟨g, cap, cur, rfl, _⟩ <;> simp [Value.oneCell']

theorem l11Facts (ps : List (List Stm)) (c : Int) (T : List (List Int)) (I : Nat → Nat → List Int) (v tv : Value) (w : World) (hc : c = 1 ∨ c = 2) (hp : CanP ps) (h1 : 1 ≤ ps.length) (h4 : ps.length ≤ 4) (hTl : T.length = ps.length) (hT : GoodN ps.length T) (hI : GoodI ps I)
    (hIN : ∀ i (hi : i < ps.length) R, IsInner (effN c T ps[i]) ps[i] R → ∀ k, k < ps[i].length → R.getD k [] = I i k) (hv : ReadsP w v ps) (ht : ReadsSS w tv T) :
    Calls Try.prog 48 #[.agg #[v], .int .i64 c, tv] w fun e w' => ∃ E a ua, e = .returned a ∧ E.length = ps.length ∧ IsEnt c ps I E ∧ OwnSS w' w.heap.size a ua (factL ps I E) ∧ Below w.heap.size w w' := by
  obtain ⟨i0, hi0, hz0, hz1, hz2⟩ := info_parts infoInt
  obtain ⟨i1, hj, hy0, hy1, hy2⟩ := info_parts infoSlice
  have hv0 := hv
  obtain ⟨ao, cap, rfl, hcell⟩ := hv
  have hP0 := heap_alloc_new w (.cells #[.slice ao ps.length cap] 30)
  have hs0 : (w.alloc (.cells #[.slice ao ps.length cap] 30)).heap.size = w.heap.size + 1 := by simp
  have hb0 : Below w.heap.size w (w.alloc (.cells #[.slice ao ps.length cap] 30)) := by go_grown
  have hen := l11Entries ps c T I (.slice ao ps.length cap) tv (w.alloc (.cells #[.slice ao ps.length cap] 30)) hc hp h1 h4 hTl hT hI hIN (readsP_below hv0 hb0) (readsSS_below ht hb0)
  go_enter Try.func48, Try.ntmps48
  go_wp2_with fail
  go_at_call 41
  refine hen.mono ?_
  rintro e w1 ⟨E, ev, rfl, hEl, hE, oE, b1⟩
  have L1 := hb0.trans (b1.mono (by omega))
  have P1 := (b1.block w.heap.size (by omega)).trans hP0
  have HE : Hid _ := hE
  have hRE := reads_own oE
  obtain ⟨ae, ce, hev, hce⟩ := hRE
  rw [ints_length, hEl] at hev
  subst hev
  have zP : w.heap.size < w1.heap.size := (Array.getElem?_eq_some_iff.1 P1).1
  have S0 : Hid (OwnSS (w1.alloc (.cells #[] 26)) w1.heap.size (.slice (some ⟨w1.heap.size, 0, none⟩) 0 0) [] ((factL ps I E).take 0)) := made0S w1
  have HPc := (one_cell P1).1
  clear hen hE oE b1
  go_wp2_with fail
  go_loopw [8, 9] (fun ov iv wr => ∃ (i : Nat) (us : List Value), i ≤ ps.length ∧ iv = .int .i64 i ∧ OwnSS wr w1.heap.size ov us ((factL ps I E).take i) ∧ Below w1.heap.size w1 wr) (fun _ iv _ => ps.length - (intOf iv).toNat)
  case atStart => exact ⟨0, [], Nat.zero_le _, rfl, S0.out, by go_grown⟩
  case round =>
    obtain ⟨i, us, hi, rfl, hO, hB⟩ := hrel
    obtain ⟨wi, rfl⟩ : ∃ wi, wi = wr := ⟨wr, rfl⟩
    have HO : Hid _ := hO
    have HB : Hid _ := hB
    have hPc := (hB.cell zP).trans HPc
    have hX : ((factL ps I E).take i).length = i := by rw [List.length_take, factL_len]; omega
    clear S0 hO
    by_cases hlt : i < ps.length
    · have hlt' : (i : Int) < (ps.length : Int) := by omega
      have h12 : ps[i].length ≤ 12 := (procOk_parts (hp i hlt).1).2.1
      have hBw := L1.trans (hB.mono L1.size)
      obtain ⟨gp, op, u, rfl, hu0, hU⟩ := hcell i ps[i] (by simp [hlt])
      have hu := (hBw.cell (World.block_lt_of_cell? w _ hu0)).trans hu0
      have hin := l10Inner ps[i] c T u tv wi hc (hp i hlt).1 (fun s hs => by rw [hTl]; exact (hp i hlt).2 s hs) (by rw [hTl]; exact hT) (reads3_below hU hBw) (readsSS_below ht hBw)
      go_wp2_with fail
      go_at_call 69
      refine hin.mono ?_
      rintro e wn ⟨R, a, ua, rfl, hRl, hRI, hOR, bn⟩
      have HR : Hid (∀ k, k < ps[i].length → R.getD k [] = I i k) := hIN i hlt R hRI
      obtain ⟨ai, ci, rfl, hrc⟩ := hOR.reads
      have HRC : Hid _ := hrc
      have HOn : Hid _ := HO.out.below bn
      have HBn : Hid (Below w1.heap.size w1 wn) := hB.trans (bn.mono hB.size)
      have HROW0 : Hid ((wn.alloc (.cells #[] 2)).ownsRow wn.heap.size 2 1 (.slice (some ⟨wn.heap.size, 0, none⟩) 0 0) 0 (ints ((rowF I E i ps[i].length).take 0))) := made0 wn
      obtain ⟨ge, oe, rfl, hcei⟩ := hce i (.int .i64 (E.getD i 0)) (by have hiE : i < E.length := by omega
                                                                       simp [ints, List.getD, hiE])
      have hcei := (HBn.out.cell (World.block_lt_of_cell? w1 _ hcei)).trans hcei
      have HEI : Hid (Small (E.getD i 0)) := HE.out.small i hlt
      obtain ⟨ei, hei⟩ : ∃ ei, E.getD i 0 = ei := ⟨_, rfl⟩
      rw [hei] at hcei HEI
      have HRKs : Hid (∀ k, k < ps[i].length → Smalls (I i k)) := hI i hlt
      have HEIe : Hid (E.getD i 0 = ei) := hei
      clear hin hu hu0 hU hrc hOR hRI bn HO hPc hei
      go_wp2_with fail
      have HB0 : Hid (Below wn.heap.size wn (wn.alloc (.cells #[] 2))) := by show Below _ _ _; go_grown
      go_loopw [11, 12] (fun rv kv wr => ∃ k : Nat, k ≤ ps[i].length ∧ kv = .int .i64 k ∧ wr.ownsRow wn.heap.size 2 1 rv k (ints ((rowF I E i ps[i].length).take k)) ∧ Below wn.heap.size wn wr) (fun _ kv _ => ps[i].length - (intOf kv).toNat)
      case atStart => exact ⟨0, Nat.zero_le _, rfl, HROW0.out, HB0.out⟩
      case round =>
        obtain ⟨k, hk, rfl, hrow, hbk⟩ := hrel
        have HROW : Hid _ := hrow
        have HBK : Hid _ := hbk
        clear HROW0 HB0 hrow hbk
        by_cases hkl : k < ps[i].length
        · have hkl' : (k : Int) < (ps[i].length : Int) := by omega
          have hkR : k < R.length := by omega
          have hkR' : (k : Int) < (R.length : Int) := by omega
          obtain ⟨gi, oi, uk, rfl, ck, hUK⟩ := HRC.out k (R.getD k []) (by simp [List.getD, hkR])
          rw [HR.out k hkl] at hUK
          have HRK := HRKs.out k hkl
          obtain ⟨rk, hrk⟩ : ∃ rk, I i k = rk := ⟨_, rfl⟩
          rw [hrk] at hUK HRK
          have HRK : Hid (Smalls rk) := HRK
          have HRKe : Hid (I i k = rk) := hrk
          have HUK : Hid (Reads wn uk (ints rk)) := hUK
          have zk := World.block_lt_of_cell? wn _ ck
          have ze := World.block_lt_of_cell? wn _ hcei
          have cei := hcei
          clear hrk hUK
          go_wp2_with fail
          --HELD a
          refine wp_region_held_drew (S := fun w' => Below wn.heap.size wn w') (by kernel_rfl) (Below.drew HBK.out) (fun hHeld => ?_)
          refine wpAnyH_take (i := 0) (oi := ?oix0) (v := u11) ?hix0 (by kernel_rfl) (by kernel_rfl) (by kernel_rfl) ?hqx0 ?hyx0 hHeld ?hrx0
          case hix0 =>
            simp only [List.getElem?_toArray, List.getElem?_cons_succ, List.getElem?_cons_zero]
            rfl
          case hqx0 => exact fun _ _ _ h => h
          case hyx0 => exact Or.inl ⟨by kernel_rfl, fun w hSw => by go_simp⟩
          try simp only [Act.put, List.setIfInBounds_toArray, List.set_cons_zero, List.set_cons_succ]
          refine wpAnyH_take (i := 1) (oi := ?oix1) (v := .slice (some ⟨gi, oi, none⟩) R.length ci) ?hix1 (by kernel_rfl) (by kernel_rfl) (by kernel_rfl) ?hqx1 ?hyx1 hHeld ?hrx1
          case hix1 =>
            simp only [List.getElem?_toArray, List.getElem?_cons_succ, List.getElem?_cons_zero]
            rfl
          case hqx1 => exact fun _ _ _ h => h
          case hyx1 => exact Or.inl ⟨by kernel_rfl, fun w hSw => by go_simp⟩
          try simp only [Act.put, List.setIfInBounds_toArray, List.set_cons_zero, List.set_cons_succ]
          refine wpAnyH_take (i := 2) (oi := ?oix2) (v := .int .i64 (k : Int)) ?hix2 (by kernel_rfl) (by kernel_rfl) (by kernel_rfl) ?hqx2 ?hyx2 hHeld ?hrx2
          case hix2 =>
            simp only [List.getElem?_toArray, List.getElem?_cons_succ, List.getElem?_cons_zero]
            rfl
          case hqx2 => exact fun _ _ _ h => h
          case hyx2 => exact Or.inl ⟨by kernel_rfl, fun w hSw => by go_simp⟩
          try simp only [Act.put, List.setIfInBounds_toArray, List.set_cons_zero, List.set_cons_succ]
          refine wpAnyH_take (i := 3) (oi := ?oix3) (v := .pointer (some ⟨gi, oi + k, none⟩)) ?hix3 (by kernel_rfl) (by kernel_rfl) (by kernel_rfl) ?hqx3 ?hyx3 hHeld ?hrx3
          case hix3 =>
            simp only [List.getElem?_toArray, List.getElem?_cons_succ, List.getElem?_cons_zero]
            rfl
          case hqx3 => exact fun _ _ _ h => h
          case hyx3 => exact Or.inl ⟨by kernel_rfl, fun w hSw => by go_simp⟩
          try simp only [Act.put, List.setIfInBounds_toArray, List.set_cons_zero, List.set_cons_succ]
          refine wpAnyH_take (i := 4) (oi := ?oix4) (v := uk) ?hix4 (by kernel_rfl) (by kernel_rfl) (by kernel_rfl) ?hqx4 ?hyx4 hHeld ?hrx4
          case hix4 =>
            simp only [List.getElem?_toArray, List.getElem?_cons_succ, List.getElem?_cons_zero]
            rfl
          case hqx4 => exact fun _ _ _ h => h
          case hyx4 => exact Or.inl ⟨by kernel_rfl, fun w hSw => by have s1 := (hSw.cell zk).trans ck; go_simp⟩
          try simp only [Act.put, List.setIfInBounds_toArray, List.set_cons_zero, List.set_cons_succ]
          refine wpAnyH_take (i := 5) (oi := ?oix5) (v := .slice (some ⟨ge, oe, none⟩) ps.length ce) ?hix5 (by kernel_rfl) (by kernel_rfl) (by kernel_rfl) ?hqx5 ?hyx5 hHeld ?hrx5
          case hix5 =>
            simp only [List.getElem?_toArray, List.getElem?_cons_succ, List.getElem?_cons_zero]
            rfl
          case hqx5 => exact fun _ _ _ h => h
          case hyx5 => exact Or.inl ⟨by kernel_rfl, fun w hSw => by go_simp⟩
          try simp only [Act.put, List.setIfInBounds_toArray, List.set_cons_zero, List.set_cons_succ]
          refine wpAnyH_take (i := 6) (oi := ?oix6) (v := .int .i64 (i : Int)) ?hix6 (by kernel_rfl) (by kernel_rfl) (by kernel_rfl) ?hqx6 ?hyx6 hHeld ?hrx6
          case hix6 =>
            simp only [List.getElem?_toArray, List.getElem?_cons_succ, List.getElem?_cons_zero]
            rfl
          case hqx6 => exact fun _ _ _ h => h
          case hyx6 => exact Or.inl ⟨by kernel_rfl, fun w hSw => by go_simp⟩
          try simp only [Act.put, List.setIfInBounds_toArray, List.set_cons_zero, List.set_cons_succ]
          refine wpAnyH_take (i := 7) (oi := ?oix7) (v := .pointer (some ⟨ge, oe + i, none⟩)) ?hix7 (by kernel_rfl) (by kernel_rfl) (by kernel_rfl) ?hqx7 ?hyx7 hHeld ?hrx7
          case hix7 =>
            simp only [List.getElem?_toArray, List.getElem?_cons_succ, List.getElem?_cons_zero]
            rfl
          case hqx7 => exact fun _ _ _ h => h
          case hyx7 => exact Or.inl ⟨by kernel_rfl, fun w hSw => by go_simp⟩
          try simp only [Act.put, List.setIfInBounds_toArray, List.set_cons_zero, List.set_cons_succ]
          refine wpAnyH_take (i := 8) (oi := ?oix8) (v := .int .i64 ei) ?hix8 (by kernel_rfl) (by kernel_rfl) (by kernel_rfl) ?hqx8 ?hyx8 hHeld ?hrx8
          case hix8 =>
            simp only [List.getElem?_toArray, List.getElem?_cons_succ, List.getElem?_cons_zero]
            rfl
          case hqx8 => exact fun _ _ _ h => h
          case hyx8 => exact Or.inl ⟨by kernel_rfl, fun w hSw => by have s1 := (hSw.cell ze).trans cei; go_simp⟩
          try simp only [Act.put, List.setIfInBounds_toArray, List.set_cons_zero, List.set_cons_succ]
          refine wpAnyH_ready (rs := [9]) (by kernel_rfl) (by simp) ?_
          refine (AllReadyH.cons (o := ?oox9) ?hox9 (fun K hK => ?hkx9) AllReadyH.nil)
          case hox9 =>
            simp only [List.getElem?_toArray, List.getElem?_cons_succ, List.getElem?_cons_zero]
            rfl
          case hkx9 =>
            go_simp
            go_at_call 70
            refine (l6Image rk ei uk wr.drew HRK.out HEI.out (reads_below HUK.out (Below.drew HBK.out))).mono ?_
            rintro e w5 ⟨rfl, b5⟩
            have B5 : Hid (Below wr.heap.size wr w5) := (Below.drew (Below.refl wr.heap.size wr)).trans b5
            have N5 : Hid (Below wn.heap.size wn w5) := HBK.out.trans (B5.out.mono HBK.out.size)
            clear b5
            try go_wp2_with fail
            refine hK.out _ _ N5.out (fun hHeld => ?_)
            clear hK K
            try simp only [Act.put, List.setIfInBounds_toArray, List.set_cons_zero, List.set_cons_succ]
            refine wpAnyH_ready (rs := [10]) (by kernel_rfl) (by simp) ?_
            refine (AllReadyH.cons (o := ?oox10) ?hox10 (fun K hK => ?hkx10) AllReadyH.nil)
            case hox10 =>
              simp only [List.getElem?_toArray, List.getElem?_cons_succ, List.getElem?_cons_zero]
              rfl
            case hkx10 =>
              go_simp
              try go_wp2_with fail
              have B6 : Hid (Below wr.heap.size wr (w5.alloc (.cells #[.int .i64 (img rk ei)] 2))) := B5.out.alloc B5.out.size _
              have N6 : Hid (Below wn.heap.size wn (w5.alloc (.cells #[.int .i64 (img rk ei)] 2))) := N5.out.alloc N5.out.size _
              have O6 : Hid ((w5.alloc (.cells #[.int .i64 (img rk ei)] 2)).ownsRow wn.heap.size 2 1 u11 k (ints ((rowF I E i ps[i].length).take k))) := own_kept HROW.out B6.out
              have HNB : Hid _ := heap_alloc_new w5 (.cells #[.int .i64 (img rk ei)] 2)
              have hm6 : wn.heap.size ≤ (w5.alloc (.cells #[.int .i64 (img rk ei)] 2)).heap.size := N6.out.size
              refine hK.out _ _ N6.out (fun hHeld => ?_)
              clear hK K
              try simp only [Act.put, List.setIfInBounds_toArray, List.set_cons_zero, List.set_cons_succ]
              refine wpAnyH_ready (rs := [11]) (by kernel_rfl) (by simp) ?_
              refine (AllReadyH.cons (o := ?oox11) ?hox11 (fun K hK => ?hkx11) AllReadyH.nil)
              case hox11 =>
                simp only [List.getElem?_toArray, List.getElem?_cons_succ, List.getElem?_cons_zero]
                rfl
              case hkx11 =>
                refine step_append_lies _ rfl (.tmp 40) (.tmp 50) 26 rfl wn.heap.size 2 i0 (.int .i64 0) 1 8 Try.underlying26 hi0 hz0 hz1 hz2 rfl (by decide) _ k (ints ((rowF I E i ps[i].length).take k)) rfl O6.out ⟨w5.heap.size, 0, none⟩ 1 1 [.int .i64 (img rk ei)] rfl rfl (World.news_of_block HNB.out) (ints_oneCell [img rk ei]) (by omega) (by unfold maxLen; omega) (by omega) hm6 _ rfl ?_
                intro g7 cp7 w7 own7 grow7 _ _
                have N7 : Hid (Below wn.heap.size wn w7) := N6.out.grown grow7 N6.out.size (fun q hq => (O6.out.lt q hq).1)
                have O7 : Hid _ := own7
                refine hK.out _ _ N7.out (fun hHeld => ?_)
                clear hK K
                try simp only [Act.put, List.setIfInBounds_toArray, List.set_cons_zero, List.set_cons_succ]
                refine wpAnyH_take (i := 12) (oi := ?oix12) (v := .slice (some ⟨g7, 0, none⟩) (k + 1) cp7) ?hix12 (by kernel_rfl) (by kernel_rfl) (by kernel_rfl) ?hqx12 ?hyx12 hHeld ?hrx12
                case hix12 =>
                  simp only [List.getElem?_toArray, List.getElem?_cons_succ, List.getElem?_cons_zero]
                  rfl
                case hqx12 => exact fun _ _ _ h => h
                case hyx12 => exact Or.inl ⟨by kernel_rfl, fun w hSw => by go_simp⟩
                try simp only [Act.put, List.setIfInBounds_toArray, List.set_cons_zero, List.set_cons_succ]
                refine wpAnyH_done (by kernel_rfl) ?_ _
          --DLEH a
                have HTK : Hid _ := rowF_take I E i ps[i].length hkl
                go_wp2_with fail
                go_roundw
                case rel =>
                  refine ⟨k + 1, by omega, by go_num, ?_, N7.out⟩
                  rw [HTK.out, HRKe.out, HEIe.out, ints_append]
                  exact O7.out
                case measure => simp [intOf]; omega
        · have hkk : k = ps[i].length := by omega
          subst hkk
          have hfull : (rowF I E i ps[i].length).take ps[i].length = rowF I E i ps[i].length := List.take_of_length_le (by rw [rowF_len]; omega)
          rw [hfull] at HROW
          have hpos : 1 ≤ ps[i].length := (procOk_parts (hp i hlt).1).1
          obtain ⟨g5, cp5, rfl⟩ := own_form HROW.out (by omega)
          have hone := one_slice HROW.out
          have HOk : Hid _ := HOn.out.below HBK.out
          have HBw : Hid (Below w1.heap.size w1 wr) := HBn.out.trans (HBK.out.mono HBn.out.size)
          have HRO : Hid (wr.ownsRow w1.heap.size 2 1 (.slice (some ⟨g5, 0, none⟩) ps[i].length cp5) (rowF I E i ps[i].length).length (ints (rowF I E i ps[i].length))) := by
            show World.ownsRow _ _ _ _ _ _ _
            rw [rowF_len]; exact own_mono HROW.out HBn.out.size
          have hXm : ((factL ps I E).take i).length + 1 ≤ maxLen := by rw [hX]; unfold maxLen; omega
          have hws := HBw.out.size
          go_wp2_with (first
            | (at_builtin; refine wpList_append_own _ rfl (.tmp 52) (.tmp 54) 37 rfl w1.heap.size 26 i1 (.slice none 0 0) 1 24 Try.underlying37 hj hy0 hy1 hy2 rfl (by decide) _ _ _ rfl (HOk.out.row.alloc _) ⟨wr.heap.size, 0, none⟩ 1 _ [.slice (some ⟨g5, 0, none⟩) ps[i].length cp5] rfl rfl (cell_oneV wr _ _) hone hXm (by rw [hX]; omega) (by simp; omega) ?_; intro v7 w7 own7 grow7 _; have S7 : Hid _ := OwnSS.appended (xs := rowF I E i ps[i].length) (HOk.out.below (by go_grown)) (own_kept HRO.out (by go_grown)) own7 grow7; have B7 : Hid (Below w1.heap.size w1 w7) := (HBw.out.alloc HBw.out.size _).grown grow7 (by simp; omega) (fun q hq => (HOk.out.row.lt q hq).1); clear own7 grow7)
            | go_in)
          go_roundw
          case rel => exact ⟨i + 1, _, by omega, by go_num, by rw [factL_take ps I E hlt]; exact S7.out, B7.out⟩
          case measure => simp [intOf]; omega
    · have hii : i = ps.length := by omega
      subst hii
      go_wp2_with fail
      go_ret
      have hfull : (factL ps I E).take ps.length = factL ps I E := List.take_of_length_le (by rw [factL_len]; omega)
      rw [hfull] at HO
      exact ⟨E, _, us, rfl, hEl, HE.out, HO.out.mono L1.size, L1.trans (HB.out.mono L1.size)⟩

theorem specFacts (ps : List (List Stm)) (c : Int) (A : List (List Int)) (hA : FactA ps c A) (v : Value) (w : World) (hl : ps.length ≤ maxLen) (hp : ∀ p ∈ ps, p.length ≤ maxLen) (hv : ReadsP w v ps) :
    Calls Try.prog 18 #[.agg #[v], .int .i64 c] w fun e w' => ∃ u us, e = .returned u ∧ OwnSS w' w.heap.size u us A ∧ Below w.heap.size w w' := by
  have hb0 : Below w.heap.size w (w.alloc (.cells #[v] 30)) := by go_grown
  have hpo := specProgramOk ps v _ hl hp (readsP_below hv hb0)
  have H0 := heap_alloc_new w (.cells #[v] 30)
  have s0 : (w.alloc (.cells #[v] 30)).heap.size = w.heap.size + 1 := by simp
  have hcl := l7Client c
  have hmade : ∀ w' : World, w.heap.size ≤ w'.heap.size → OwnSS (w'.alloc (.cells #[] 26)) w.heap.size (.slice (some ⟨w'.heap.size, 0, none⟩) 0 0) [] [] := fun w' h => (made0S w').mono h
  cases h1 : programOk ps
  · have e : okB ps c = false := by simp [okB, h1]
    rw [hA.2 e]
    rw [h1] at hpo
    go_enter Try.func18, Try.ntmps18
    go_wp2_with (first
      | (go_at_call 39; refine hpo.mono ?_; rintro e w2 ⟨rfl, b2⟩))
    go_ret
    have L2 := hb0.trans (b2.mono hb0.size)
    exact ⟨_, _, rfl, hmade _ L2.size, L2.alloc L2.size _⟩
  · rw [h1] at hpo
    by_cases h2 : c = 1 ∨ c = 2
    · have e : okB ps c = true := by simp [okB, h1, h2]
      obtain ⟨I, E, hI, rfl⟩ := hA.1 e
      obtain ⟨_, hc, hcp, h4⟩ := okB_parts e
      rw [decide_eq_true h2] at hcl
      go_enter Try.func18, Try.ntmps18
      go_wp2_with fail
      go_at_call 39
      refine hpo.mono ?_
      rintro e w2 ⟨rfl, b2⟩
      have L2 := hb0.trans (b2.mono hb0.size)
      have P2 := (b2.block w.heap.size (by omega)).trans H0
      obtain ⟨c2, f2⟩ := one_cell P2
      have HTB : Hid (∀ W, Below w2.heap.size w2 W → _) := fun W hW => l10Tables ps c v W hc hcp h4 (readsP_below (readsP_below hv L2) hW)
      have HOK : Hid (1 ≤ ps.length) := ok_one (by simp [okB, h1, h2] : okB ps c = true)
      have z2 : w.heap.size < w2.heap.size := (Array.getElem?_eq_some_iff.1 P2).1
      go_wp2_with (first
        | (go_at_call 40; refine (hcl _).mono ?_; rintro e w3 ⟨rfl, rfl⟩))
      --HELD b
      refine wp_region_held_drew (S := fun w' => w'.cell? ⟨w.heap.size, 0, none⟩ = some v) (by kernel_rfl) c2 (fun hHeld => ?_)
      refine wpAnyH_take (i := 0) (oi := ?ois0) (v := .agg #[v]) ?his0 (by kernel_rfl) (by kernel_rfl) (by kernel_rfl) ?hqs0 ?hys0 hHeld ?hrs0
      case his0 =>
        simp only [List.getElem?_toArray, List.getElem?_cons_succ, List.getElem?_cons_zero]
        rfl
      case hqs0 => exact fun _ _ _ h => h
      case hys0 => exact Or.inl ⟨by kernel_rfl, fun w hSw => by have s1 := hSw; go_simp⟩
      try simp only [Act.put, List.setIfInBounds_toArray, List.set_cons_zero, List.set_cons_succ]
      refine wpAnyH_take (i := 1) (oi := ?ois1) (v := .int .i64 c) ?his1 (by kernel_rfl) (by kernel_rfl) (by kernel_rfl) ?hqs1 ?hys1 hHeld ?hrs1
      case his1 =>
        simp only [List.getElem?_toArray, List.getElem?_cons_succ, List.getElem?_cons_zero]
        rfl
      case hqs1 => exact fun _ _ _ h => h
      case hys1 => exact Or.inl ⟨by kernel_rfl, fun w hSw => by go_simp⟩
      try simp only [Act.put, List.setIfInBounds_toArray, List.set_cons_zero, List.set_cons_succ]
      refine wpAnyH_take (i := 2) (oi := ?ois2) (v := .agg #[v]) ?his2 (by kernel_rfl) (by kernel_rfl) (by kernel_rfl) ?hqs2 ?hys2 hHeld ?hrs2
      case his2 =>
        simp only [List.getElem?_toArray, List.getElem?_cons_succ, List.getElem?_cons_zero]
        rfl
      case hqs2 => exact fun _ _ _ h => h
      case hys2 => exact Or.inl ⟨by kernel_rfl, fun w hSw => by have s1 := hSw; go_simp⟩
      try simp only [Act.put, List.setIfInBounds_toArray, List.set_cons_zero, List.set_cons_succ]
      refine wpAnyH_take (i := 3) (oi := ?ois3) (v := .int .i64 c) ?his3 (by kernel_rfl) (by kernel_rfl) (by kernel_rfl) ?hqs3 ?hys3 hHeld ?hrs3
      case his3 =>
        simp only [List.getElem?_toArray, List.getElem?_cons_succ, List.getElem?_cons_zero]
        rfl
      case hqs3 => exact fun _ _ _ h => h
      case hys3 => exact Or.inl ⟨by kernel_rfl, fun w hSw => by go_simp⟩
      try simp only [Act.put, List.setIfInBounds_toArray, List.set_cons_zero, List.set_cons_succ]
      refine wpAnyH_ready (rs := [4]) (by kernel_rfl) (by simp) ?_
      refine (AllReadyH.cons (o := ?oos4) ?hos4 (fun K hK => ?hks4) AllReadyH.nil)
      case hos4 =>
        simp only [List.getElem?_toArray, List.getElem?_cons_succ, List.getElem?_cons_zero]
        rfl
      case hks4 =>
        go_simp
        go_at_call 42
        refine (HTB.out w2.drew (Below.drew (Below.refl _ _))).mono ?_
        rintro e w4 ⟨T, a4, u4, rfl, hTl, hT, o4, b4⟩
        have B4 : Hid (Below w2.heap.size w2 w4) := (Below.drew (Below.refl w2.heap.size w2)).trans b4
        have HTL : Hid (T.length = ps.length) := hTl
        have HT : Hid (IsTables c ps T) := hT
        have HO4 : Hid (ReadsSS w4 a4 T) := o4.reads
        have L4 : Hid (Below w.heap.size w w4) := L2.trans (B4.out.mono L2.size)
        clear b4 hTl hT o4
        try go_wp2_with fail
        refine hK.out _ _ ((B4.out.cell z2).trans c2) (fun hHeld => ?_)
        clear hK K
        try simp only [Act.put, List.setIfInBounds_toArray, List.set_cons_zero, List.set_cons_succ]
        refine wpAnyH_ready (rs := [5]) (by kernel_rfl) (by simp) ?_
        refine (AllReadyH.cons (o := ?oos5) ?hos5 (fun K hK => ?hks5) AllReadyH.nil)
        case hos5 =>
          simp only [List.getElem?_toArray, List.getElem?_cons_succ, List.getElem?_cons_zero]
          rfl
        case hks5 =>
          go_simp
          go_at_call 48
          refine (l11Facts ps c T I v a4 w4 hc hcp HOK.out h4 HTL.out HT.out.good hI.inn.good (fun i hi R hR k hk => hI.inn.inner hcp HT.out i hi R hR k hk) (readsP_below hv L4.out) HO4.out).mono ?_
          rintro e w5 ⟨F, u5, us5, rfl, hEl, hE, o5, b5⟩
          have B5 : Hid (Below w4.heap.size w4 w5) := b5
          try go_wp2_with fail
          refine hK.out _ _ ((B5.out.cell (Nat.lt_of_lt_of_le z2 B4.out.size)).trans ((B4.out.cell z2).trans c2)) (fun hHeld => ?_)
          clear hK K
          try simp only [Act.put, List.setIfInBounds_toArray, List.set_cons_zero, List.set_cons_succ]
          refine wpAnyH_take (i := 6) (oi := ?ois6) (v := u5) ?his6 (by kernel_rfl) (by kernel_rfl) (by kernel_rfl) ?hqs6 ?hys6 hHeld ?hrs6
          case his6 =>
            simp only [List.getElem?_toArray, List.getElem?_cons_succ, List.getElem?_cons_zero]
            rfl
          case hqs6 => exact fun _ _ _ h => h
          case hys6 => exact Or.inl ⟨by kernel_rfl, fun w hSw => by go_simp⟩
          try simp only [Act.put, List.setIfInBounds_toArray, List.set_cons_zero, List.set_cons_succ]
          refine wpAnyH_done (by kernel_rfl) ?_ _
          go_wp2_with fail
          go_ret
          have hEA : E = F := ents_eq hI hEl hE
          rw [← hEA] at o5
          exact ⟨_, _, rfl, o5.mono L4.out.size, L4.out.trans (B5.out.mono L4.out.size)⟩
      --DLEH b
    · have e : okB ps c = false := by simp [okB, h2]
      rw [hA.2 e]
      rw [decide_eq_false h2] at hcl
      go_enter Try.func18, Try.ntmps18
      go_wp2_with (first
        | (go_at_call 39; refine hpo.mono ?_; rintro e w2 ⟨rfl, b2⟩)
        | (go_at_call 40; refine (hcl _).mono ?_; rintro e w3 ⟨rfl, rfl⟩))
      go_ret
      have L2 := hb0.trans (b2.mono hb0.size)
      exact ⟨_, _, rfl, hmade _ L2.size, L2.alloc L2.size _⟩

end Go.Proofs.Ytnjbihfceckpfaa
