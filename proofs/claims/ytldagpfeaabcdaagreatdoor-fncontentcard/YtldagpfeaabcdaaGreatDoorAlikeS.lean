/-
 spec.Alike.
-/
import Derived.Test.YtldagpfeaabcdaaGreatDoorG40Alike14
import Derived.Lib.QuietBelow
namespace Go.Proofs.YtldagpfeaabcdaaGreatDoor
open Go.RowKit
set_option linter.unusedVariables false
set_option linter.unusedSimpArgs false
set_option maxHeartbeats 4000000
set_option maxRecDepth 20000
theorem specAlike (ps1 ps2 : List (List Stm)) (v u : Value) (w : World) (hla : ps1.length ≤ maxLen) (hpa : ∀ p ∈ ps1, p.length ≤ maxLen) (hlb : ps2.length ≤ maxLen) (hpb : ∀ p ∈ ps2, p.length ≤ maxLen) (hv : jb5 w v ps1) (hu : jb5 w u ps2) :
 Calls Tryz.prog 10 #[.agg #[v], .agg #[u]] w fun e w' => ∃ y, e = .returned y ∧ OwnPl w' w.heap.size y (jl0 ps1 ps2) ∧ Below w.heap.size w w' := by
 obtain ⟨ip, hip, hq0, hq1, hq2⟩ := info_parts infoPlace
 obtain ⟨ao, acap, rfl, _⟩ := id hv
 obtain ⟨bo, bcap, rfl, _⟩ := id hu
 obtain ⟨W0, hW0⟩ : ∃ W0, ((w.alloc (.cells #[.slice ao ps1.length acap] 26)).alloc (.cells #[.slice bo ps2.length bcap] 26)).alloc (.cells #[] 42) = W0 := ⟨_, rfl⟩
 have b0 : Below w.heap.size w W0 := by rw [← hW0]; go_grown
 have s0 : W0.heap.size = w.heap.size + 3 := by rw [← hW0]; simp
 have H0 : W0.heap[w.heap.size]? = some (.cells #[.slice ao ps1.length acap] 26 (0, 0)) := by
  rw [← hW0, ja2 (by simp <;> omega), ja2 (by simp)]; exact heap_alloc_new w _
 have H1 : W0.heap[w.heap.size + 1]? = some (.cells #[.slice bo ps2.length bcap] 26 (0, 0)) := by
  rw [← hW0, ja2 (by simp)]
  have := heap_alloc_new (w.alloc (.cells #[.slice ao ps1.length acap] 26)) (.cells #[.slice bo ps2.length bcap] 26)
  simpa using this
 have m0 : OwnPl W0 (w.heap.size + 2) (.slice (some ⟨w.heap.size + 1 + 1, 0, none⟩) 0 0) [] := by
  have := made0P ((w.alloc (.cells #[.slice ao ps1.length acap] 26)).alloc (.cells #[.slice bo ps2.length bcap] 26))
  rw [hW0] at this
  simpa using this
 have hoka := ji0 ps1 _ W0 hla hpa (ja0 hv b0)
 have hokb := fun W (hW : Below W0.heap.size W0 W) => ji0 ps2 _ W hlb hpb (ja0 (ja0 hu b0) hW)
 have c0 := (ja4 H0).1
 have HHV : Hid (jb5 w (.slice ao ps1.length acap) ps1) := hv
 have HHU : Hid (jb5 w (.slice bo ps2.length bcap) ps2) := hu
 have HM0 : Hid _ := m0
 clear hv hu m0
 by_cases hok : ja5 ps1 = true ∧ ja5 ps2 = true
 · obtain ⟨hoa, hob⟩ := hok
   have hC : jl0 ps1 ps2 = allA (ji7 ps1 ps2) ps2.length ps1.length := by unfold jl0; rw [hoa, hob]; rfl
   rw [hC]
   obtain ⟨R, hR⟩ : ∃ R, allA (ji7 ps1 ps2) ps2.length ps1.length = R := ⟨_, rfl⟩
   rw [hR]
   have HR : Hid _ := hR
   obtain ⟨h4a, _, _⟩ := jc1 hoa
   obtain ⟨h4b, _, _⟩ := jc1 hob
   rw [hoa] at hoka
   rw [hob] at hokb
   clear hC hR hoa hob
   go_enter Tryz.func10, Tryz.ntmps10
   go_wp2_with fail
   go_at_call 32
   refine hoka.mono ?_
   rintro e w1 ⟨rfl, b1⟩
   have s1 := b1.size
   have H11 := (b1.block (w.heap.size + 1) (by omega)).trans H1
   have c1 := (ja4 H11).1
   have hokb1 := hokb w1 b1
   clear hoka hokb c0 hW0
   go_wp2_with fail
   go_at_call 32
   refine hokb1.mono ?_
   rintro e w2 ⟨rfl, b2⟩
   have s2 := b2.size
   have B2 : Below W0.heap.size W0 w2 := jc8 b1 b2 (by omega)
   have H20 := (B2.block _ (by omega)).trans H0
   have H21 := (B2.block _ (by omega)).trans H1
   have L2 : Below w.heap.size w w2 := jc8 b0 B2 (by omega)
   have O2 : OwnPl w2 (w.heap.size + 2) (.slice (some ⟨w.heap.size + 1 + 1, 0, none⟩) 0 0) (allA (ji7 ps1 ps2) ps2.length 0) := HM0.out.below B2
   have z2 : w.heap.size + 2 ≤ w2.heap.size := by omega
   clear hokb1 c1 H11 H0 H1 b0 b1 b2 B2 HM0 s0 s1 s2
   go_wp2
   go_loopw [5, 6] (fun o q wr => ∃ i : Nat, i ≤ ps1.length ∧ q = .int .i64 i ∧ OwnPl wr (w.heap.size + 2) o (allA (ji7 ps1 ps2) ps2.length i) ∧ Below w.heap.size w wr ∧ wr.heap[w.heap.size]? = some (.cells #[.slice ao ps1.length acap] 26 (0, 0)) ∧ wr.heap[w.heap.size + 1]? = some (.cells #[.slice bo ps2.length bcap] 26 (0, 0)) ∧ w.heap.size + 2 ≤ wr.heap.size) (fun _ q _ => ps1.length - (intOf q).toNat)
   case atStart => exact ⟨0, Nat.zero_le _, rfl, O2, L2, H20, H21, z2⟩
   case round =>
    obtain ⟨i, hi, rfl, hO, hb, hA, hB, hz⟩ := hrel
    clear O2 L2 H20 H21 z2
    obtain ⟨cA, _⟩ := ja4 hA
    by_cases hlt : i < ps1.length
    · have hlt' : (i : Int) < (ps1.length : Int) := by omega
      have hO' : OwnPl wr (w.heap.size + 2) u5 (jo8 (ji7 ps1 ps2) ps2.length i 0) := by rw [qh1]; exact hO
      clear hO
      go_wp2
      clear cA
      go_loopw [5, 7] (fun o q wr => ∃ k : Nat, k ≤ ps2.length ∧ q = .int .i64 k ∧ OwnPl wr (w.heap.size + 2) o (jo8 (ji7 ps1 ps2) ps2.length i k) ∧ Below w.heap.size w wr ∧ wr.heap[w.heap.size]? = some (.cells #[.slice ao ps1.length acap] 26 (0, 0)) ∧ wr.heap[w.heap.size + 1]? = some (.cells #[.slice bo ps2.length bcap] 26 (0, 0)) ∧ w.heap.size + 2 ≤ wr.heap.size) (fun _ q _ => ps2.length - (intOf q).toNat)
      case atStart => exact ⟨0, Nat.zero_le _, rfl, hO', hb, hA, hB, hz⟩
      case round =>
       obtain ⟨k, hk, rfl, hOk, hbk, hAk, hBk, hzk⟩ := hrel
       clear hO' hb hA hB hz
       obtain ⟨cA, _⟩ := ja4 hAk
       obtain ⟨cB, _⟩ := ja4 hBk
       by_cases hlk : k < ps2.length
       · have hlk' : (k : Int) < (ps2.length : Int) := by omega
         have hca : ∀ d os, _ := fun d os => Calls.regrown_of (w := wr) (d := d) (os := os) (jv0 ps1 (i : Int) (.slice ao ps1.length acap) _ hla hpa (ja0 HHV.out (hbk.trans ((below_regrown wr d os).mono hbk.size))))
         have hcb : ∀ d os, _ := fun d os => Calls.regrown_of (w := wr) (d := d) (os := os) (jv0 ps2 (k : Int) (.slice bo ps2.length bcap) _ hlb hpb (ja0 HHU.out (hbk.trans ((below_regrown wr d os).mono hbk.size))))
         have gA := cell_regrown cA
         have gB := cell_regrown cB
         have hIk : ji7 ps1 ps2 i k = decide (conA ps1 i = conA ps2 k) := rfl
         have hpy := @partA_yes (ji7 ps1 ps2) ps2.length i k
         have hpn := @partA_no (ji7 ps1 ps2) ps2.length i k
         obtain ⟨q, hq, hq16⟩ := partA_len (ji7 ps1 ps2) ps2.length i k h4b (by omega) (by omega)
         generalize conA ps1 (i : Int) = D at *
         generalize conA ps2 (k : Int) = E at *
         have HPY : Hid _ := hpy
         have HPN : Hid _ := hpn
         clear hpy hpn
         go_wp2_with fail
         refine wp_region_quiet_below (by kernel_rfl) (by kernel_rfl) ?_
         repeat (go_big_quiet_step (first | (with_reducible exact hca _ _) | (with_reducible exact hcb _ _)))
         refine wpQuiet_nil ?_
         intro w5 hw'
         obtain ⟨⟨dq, osq⟩, hw''⟩ := hw'
         have br : Below wr.heap.size wr w5 := by rw [hw'']; exact below_regrown wr dq osq
         clear hw''
         have L5 : Below w.heap.size w w5 := jc8 hbk br hbk.size
         have O5 := hOk.below br
         have A5 := (br.block _ (by omega)).trans hAk
         have B5 := (br.block _ (by omega)).trans hBk
         have z5 := br.size
         clear hca hcb gA gB cA cB hOk hbk hAk hBk br
         by_cases hDE : D = E
         · have hs : ji7 ps1 ps2 i k = true := by rw [hIk]; simp [hDE]
           have HP : Hid _ := HPY.out hs
           clear hIk hs HPY HPN
           subst hDE
           rw [show (D == D) = true from by simp]
           obtain ⟨q', hq', own⟩ := O5.ex
           obtain rfl : q = q' := by omega
           obtain ⟨xa, xm, xc, rfl⟩ := jd4 own
           have HAL : Hid ((w5.alloc (.cells #[.int .i64 (i : Int), .int .i64 (k : Int)] 42)).ownsRow (w.heap.size + 2) 42 2 (.slice xa xm xc) q (ints (jo8 (ji7 ps1 ps2) ps2.length i k))) := own.alloc _
           have HNW : Hid (∀ j u, [Value.int .i64 (i : Int), .int .i64 (k : Int)][j]? = some u → (w5.alloc (.cells #[.int .i64 (i : Int), .int .i64 (k : Int)] 42)).cell? ((⟨w5.heap.size, 0, none⟩ : Addr).add j) = some u) := World.news_of_block (heap_alloc_new w5 (.cells #[.int .i64 (i : Int), .int .i64 (k : Int)] 42))
           have bl : Below w5.heap.size w5 (w5.alloc (.cells #[.int .i64 (i : Int), .int .i64 (k : Int)] 42)) := by go_grown
           have A6 := (bl.block _ (by omega)).trans A5
           have B6 := (bl.block _ (by omega)).trans B5
           have L6 := jc8 L5 bl L5.size
           clear own O5 A5 B5 L5 bl
           go_wp2_with (first
            | (at_builtin; refine wpList_append_own _ rfl (.tmp 39) (.tmp 43) 29 rfl (w.heap.size + 2) 42 ip (.agg #[.int .i64 0, .int .i64 0]) 2 16 Tryz.underlying29 hip hq0 hq1 hq2 rfl (by decide) _ q _ rfl HAL.out ⟨w5.heap.size, 0, none⟩ 1 1 [.int .i64 (i : Int), .int .i64 (k : Int)] rfl rfl HNW.out (two_one i k) (by unfold maxLen; omega) (by omega) (by simp; omega) ?_; intro v7 w7 own7 grow7 _; refine qc1 ?_)
            | go_in)
           have hrow : ∀ z, (Value.slice xa xm xc).ownBlock = some z → w.heap.size + 2 ≤ z := fun z hz => (World.ownsRow.lt HAL.out z hz).1
           have L7 : Below w.heap.size w w7 := L6.grown grow7 (by simp; omega) (fun z hz => by have := hrow z hz; omega)
           have A7 := (grow7.block _ (by simp; omega) (fun e => by have := hrow _ e.symm; omega)).trans A6
           have B7 := (grow7.block _ (by simp; omega) (fun e => by have := hrow _ e.symm; omega)).trans B6
           have z7 := grow7.size
           simp at z7
           have O7 : Hid (OwnPl w7 (w.heap.size + 2) v7 (jo8 (ji7 ps1 ps2) ps2.length i (k + 1))) := by
            show OwnPl _ _ _ _
            rw [HP.out]
            exact OwnPl.app hq own7
           obtain ⟨va, vm, vc, rfl⟩ := jd4 own7
           have z8 : w.heap.size + 2 ≤ w7.heap.size := by omega
           clear own7 grow7 L6 A6 B6 HAL HNW hrow z7
           unfold Stop14
           go_wp2
           go_roundw
           case rel => exact ⟨k + 1, by omega, by go_num, O7.out, L7, A7, B7, z8⟩
           case measure => simp [intOf]; omega
         · have hs : ji7 ps1 ps2 i k = false := by rw [hIk]; simp [hDE]
           have HP : Hid _ := HPN.out hs
           rw [show (D == E) = false from by simpa using hDE]
           clear hIk hs HPY HPN
           have HOK : Hid (OwnPl w5 (w.heap.size + 2) u5 (jo8 (ji7 ps1 ps2) ps2.length i (k + 1))) := by
            show OwnPl _ _ _ _
            rw [HP.out]
            exact O5
           have z8 : w.heap.size + 2 ≤ w5.heap.size := by omega
           clear O5
           go_wp2
           go_roundw
           case rel => exact ⟨k + 1, by omega, by go_num, HOK.out, L5, A5, B5, z8⟩
           case measure => simp [intOf]; omega
       · have hkk : k = ps2.length := by omega
         have HOK : Hid (OwnPl wr (w.heap.size + 2) u5 (allA (ji7 ps1 ps2) ps2.length (i + 1))) := by
          show OwnPl _ _ _ _
          rw [← partA_all]
          rw [hkk] at hOk
          exact hOk
         have HAK : Hid _ := hAk
         have HBK : Hid _ := hBk
         clear hOk hkk cA hAk hBk
         go_wp2
         go_roundw
         case rel => exact ⟨i + 1, by omega, by go_num, HOK.out, hbk, HAK.out, HBK.out, hzk⟩
         case measure => simp [intOf]; omega
    · have hii : i = ps1.length := by omega
      rw [hii, HR.out] at hO
      have HO : Hid _ := hO.mono (by omega : w.heap.size ≤ w.heap.size + 2)
      obtain ⟨q, _, own⟩ := hO.ex
      obtain ⟨xa, xm, xc, hx⟩ := jd4 own
      subst hx
      clear hO own hii
      go_wp2
      go_ret
      exact ⟨_, rfl, HO.out, hb⟩
 · have hC : jl0 ps1 ps2 = [] := by
    unfold jl0
    rw [if_neg (by simpa using hok)]
   rw [hC]
   cases hoa : ja5 ps1
   · rw [hoa] at hoka
     clear hok hC hoa hokb
     go_enter Tryz.func10, Tryz.ntmps10
     go_wp2_with fail
     go_at_call 32
     refine hoka.mono ?_
     rintro e w1 ⟨rfl, b1⟩
     have HL : Hid (Below w.heap.size w w1) := jc8 b0 b1 (by omega)
     have HO : Hid (OwnPl w1 w.heap.size (.slice (some ⟨w.heap.size + 1 + 1, 0, none⟩) 0 0) []) := (HM0.out.below b1).mono (by omega)
     clear hoka c0 hW0 b0 b1 H0 H1
     go_wp2
     go_ret
     exact ⟨_, rfl, HO.out, HL.out⟩
   · cases hob : ja5 ps2
     · rw [hoa] at hoka
       rw [hob] at hokb
       clear hok hC hoa hob
       go_enter Tryz.func10, Tryz.ntmps10
       go_wp2_with fail
       go_at_call 32
       refine hoka.mono ?_
       rintro e w1 ⟨rfl, b1⟩
       have s1 := b1.size
       have H11 := (b1.block (w.heap.size + 1) (by omega)).trans H1
       have c1 := (ja4 H11).1
       have hokb1 := hokb w1 b1
       clear hoka hokb c0 hW0
       go_wp2_with fail
       go_at_call 32
       refine hokb1.mono ?_
       rintro e w2 ⟨rfl, b2⟩
       have B2 : Below W0.heap.size W0 w2 := jc8 b1 b2 (by omega)
       have HL : Hid (Below w.heap.size w w2) := jc8 b0 B2 (by omega)
       have HO : Hid (OwnPl w2 w.heap.size (.slice (some ⟨w.heap.size + 1 + 1, 0, none⟩) 0 0) []) := (HM0.out.below B2).mono (by omega)
       clear hokb1 c1 H11 b0 b1 b2 B2 H0 H1
       go_wp2
       go_ret
       exact ⟨_, rfl, HO.out, HL.out⟩
     · exact absurd ⟨hoa, hob⟩ hok
end Go.Proofs.YtldagpfeaabcdaaGreatDoor
