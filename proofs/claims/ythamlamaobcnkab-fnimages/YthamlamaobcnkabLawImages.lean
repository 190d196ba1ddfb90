/-
  The law FnImages: what sets together make is what each makes, and what is composed makes first the one, then the other.
-/
import Derived.Test.YthamlamaobcnkabRelMath
import Derived.Test.YthamlamaobcnkabDrawRel
import Derived.Test.YthamlamaobcnkabOpenCode
namespace Go.Proofs.Ythamlamaobcnkab
open Go.ChangeShapes Go.WideShapes Go.ChangeAt Go.RowKit
set_option linter.unusedVariables false
set_option linter.unusedSimpArgs false
set_option maxHeartbeats 4000000

theorem walkImages (bs : List Int) (v : Value) (w : World) (hl : bs.length ≤ maxLen) (hb : ∀ x ∈ bs, 0 ≤ x ∧ x ≤ 255) (hv : Reads w v (bs.map (Value.int .u8))) :
    Calls Try.prog 3 #[v] w fun e w' => e = .returned (.bool true) ∧ Below w.heap.size w w' := by
  by_cases hbig : (4096 : Int) < (bs.length : Int)
  · go_enter Try.func3, Try.ntmps3
    go_wp2_with (go_at_call 4; refine (lawBig bs v w hl hv).mono ?_; rintro e w1 ⟨rfl, rfl⟩; simp only [decide_eq_true hbig])
    go_ret
    exact ⟨rfl, Below.refl _ _⟩
  have hl' : bs.length ≤ 1048576 := by omega
  go_enter Try.func3, Try.ntmps3
  go_wp2_with fail
  go_at_call 4
  refine (lawBig bs v w hl hv).mono ?_
  rintro e w1 ⟨rfl, rfl⟩
  simp only [decide_eq_false (show ¬ (4096 : Int) < (bs.length : Int) by omega)]
  go_wp2_with fail
  go_at_call 5
  refine (drawImage bs v w hl' hv).mono ?_
  rintro e w1 ⟨r, rs, s, rfl, hr, rr, b1⟩
  have hrm : rs.length ≤ maxLen := by unfold maxLen; omega
  go_wp2_with fail
  go_at_call 6
  refine (implImage rs s r w1 hrm rr).mono ?_
  rintro e w2 ⟨rfl, b2⟩
  have L2 := b1.trans (b2.mono b1.size)
  have rr := reads_below rr b2
  go_wp2_with fail
  go_at_call 7
  refine (specImage rs s r w2 hrm rr).mono ?_
  rintro e w3 ⟨rfl, b3⟩
  have L3 := L2.trans (b3.mono L2.size)
  have rr := reads_below rr b3
  clear b1 b2 b3 L2
  by_cases hok : relOk rs = true ∧ inB s 0 127 = true
  · have hm : imageAns rs s = img rs s := by simp [imageAns, hok.1, hok.2]
    have hrs := relOk_iff.1 hok.1
    have hsm := small_in.1 hok.2
    have him := img_small hrs s
    rw [hm]
    have hm0 : ¬ img rs s < 0 := by have := him.1; omega
    have HM0 : Hid _ := hm0
    go_wp2_with fail
    go_at_call 9
    refine (lawPick bs v 1 128 w3 hl' hb (reads_below hv L3) (by omega) (by omega) (by omega)).mono ?_
    rintro e w4 ⟨t, rfl, ht0, ht1, b4⟩
    have hts : Small t := ⟨ht0, by omega⟩
    have L4 := L3.trans (b4.mono L3.size)
    have rr := reads_below rr b4
    go_wp2_with fail
    go_at_call 10
    refine (drawCompose bs v w4 hl' (reads_below hv L4)).mono ?_
    rintro e w5 ⟨a, b, xs, ys, rfl, hx, hy, ra0, rb0, b5⟩
    have ra := ra0.reads
    have rb := rb0.reads
    have L5 := L4.trans (b5.mono L4.size)
    have rr := reads_below rr b5
    have hxm : xs.length ≤ maxLen := by unfold maxLen; omega
    have hym : ys.length ≤ maxLen := by unfold maxLen; omega
    clear ra0 rb0
    go_wp2_with fail
    go_at_call 11
    refine (specCompose xs ys a b w5 hxm hym ra rb).mono ?_
    rintro e w6 ⟨c, rfl, oc, b6⟩
    obtain ⟨co, cc, rfl, _⟩ := reads_own oc
    rw [ints_length]
    have L6 := L5.trans (b6.mono L5.size)
    have rr := reads_below rr b6
    have ra := reads_below ra b6
    have rb := reads_below rb b6
    clear oc b4 b5 b6 L3 L4 L5
    have later : ∀ W, Below w6.heap.size w6 W → Reads W r (ints rs) := fun W hW => reads_below rr hW
    have LT : Hid _ := later
    clear later
    have hlo := lor_small hsm hts
    have hA1 : imageAns rs (bits .or .i64 s t) = bits .or .i64 (img rs s) (img rs t) := by
      have h1 : imageAns rs (lor s t) = img rs (lor s t) := by simp [imageAns, hok.1, small_in.2 hlo]
      exact h1.trans (img_lor hrs hsm hts)
    have hA2 : imageAns rs t = img rs t := by simp [imageAns, hok.1, small_in.2 hts]
    have hA3 : imageAns rs 0 = 0 := by
      have h1 : imageAns rs 0 = img rs 0 := by simp [imageAns, hok.1, small_in.2 (show Small 0 from ⟨by omega, by omega⟩)]
      exact h1.trans (img_zero hrs)
    have hA4 : imageAns unitL s = s := by
      have h1 : imageAns unitL s = img unitL s := by simp [imageAns, relOk_iff.2 unit_smalls, hok.2]
      exact h1.trans (img_unit hsm)
    by_cases hab : relOk xs = true ∧ relOk ys = true
    · have hca : compAns xs ys = comp xs ys := by simp [compAns, hab.1, hab.2]
      have hxs := relOk_iff.1 hab.1
      have hys := relOk_iff.1 hab.2
      have hc7 : (comp xs ys).length = 7 := by simp [comp, hxs.1]
      rw [hca, hc7]
      go_wp2_with fail
      go_at_call 12
      refine (implCompose xs ys a b w6 hxm hym ra rb).mono ?_
      rintro e w7 ⟨c, rfl, oc, b7⟩
      rw [hca] at oc
      have ra7 := reads_below ra b7
      have rb7 := reads_below rb b7
      have hcm : (comp xs ys).length ≤ maxLen := by rw [hc7]; unfold maxLen; omega
      have hok7 : relOk (comp xs ys) = true := relOk_iff.2 (comp_smalls hxs hys)
      have e1 : imageAns (comp xs ys) s = img ys (img xs s) := by rw [← img_comp hxs hys]; simp [imageAns, hok7, hok.2]
      have e2 : imageAns xs s = img xs s := by simp [imageAns, hab.1, hok.2]
      have e3 : imageAns ys (img xs s) = img ys (img xs s) := by simp [imageAns, hab.2, small_in.2 (img_small hxs s)]
      go_wp2_with fail
      go_at_call 6
      refine (implImage (comp xs ys) s c w7 hcm (reads_own oc)).mono ?_
      rintro e w8 ⟨rfl, b8⟩
      rw [e1]
      have B8 := b7.trans (b8.mono b7.size)
      go_wp2_with fail
      go_at_call 6
      refine (implImage xs s a w8 hxm (reads_below ra B8)).mono ?_
      rintro e w9 ⟨rfl, b9⟩
      rw [e2]
      have B9 := B8.trans (b9.mono B8.size)
      go_wp2_with fail
      go_at_call 6
      refine (implImage ys (img xs s) b w9 hym (reads_below rb B9)).mono ?_
      rintro e w10 ⟨rfl, b10⟩
      rw [e3]
      have B10 := B9.trans (b10.mono B9.size)
      clear e1 e2 e3 oc ra7 rb7
      go_wp2_with fail
      go_at_call 6
      refine (implImage rs _ r w10 hrm (LT.out w10 B10)).mono ?_
      rintro e w11 ⟨rfl, b11⟩
      rw [hA1]
      have B11 := B10.trans (b11.mono B10.size)
      go_wp2_with fail
      go_at_call 6
      refine (implImage rs t r w11 hrm (LT.out w11 B11)).mono ?_
      rintro e w12 ⟨rfl, b12⟩
      rw [hA2]
      have B12 := B11.trans (b12.mono B11.size)
      go_wp2_with fail
      go_at_call 6
      refine (implImage rs 0 r w12 hrm (LT.out w12 B12)).mono ?_
      rintro e w13 ⟨rfl, b13⟩
      rw [hA3]
      have B13 := B12.trans (b13.mono B12.size)
      go_wp2_with fail
      go_at_call 13
      refine (implUnit w13).mono ?_
      rintro e w14 ⟨ua, rfl, ou, b14⟩
      have B14 := B13.trans (b14.mono B13.size)
      go_wp2_with fail
      go_at_call 6
      refine (implImage unitL s ua w14 (by decide) (reads_own ou)).mono ?_
      rintro e w15 ⟨rfl, b15⟩
      rw [hA4]
      have B15 := B14.trans (b15.mono B14.size)
      go_wp2
      go_ret
      exact ⟨rfl, L6.trans (B15.mono L6.size)⟩
    · have hca : compAns xs ys = [] := by
        unfold compAns
        rw [if_neg (by simpa using hab)]
      rw [hca]
      have B6 := Below.refl w6.heap.size w6
      go_wp2_with fail
      go_at_call 6
      refine (implImage rs _ r w6 hrm (LT.out w6 B6)).mono ?_
      rintro e w11 ⟨rfl, b11⟩
      rw [hA1]
      have B11 := B6.trans (b11.mono B6.size)
      go_wp2_with fail
      go_at_call 6
      refine (implImage rs t r w11 hrm (LT.out w11 B11)).mono ?_
      rintro e w12 ⟨rfl, b12⟩
      rw [hA2]
      have B12 := B11.trans (b12.mono B11.size)
      go_wp2_with fail
      go_at_call 6
      refine (implImage rs 0 r w12 hrm (LT.out w12 B12)).mono ?_
      rintro e w13 ⟨rfl, b13⟩
      rw [hA3]
      have B13 := B12.trans (b13.mono B12.size)
      go_wp2_with fail
      go_at_call 13
      refine (implUnit w13).mono ?_
      rintro e w14 ⟨ua, rfl, ou, b14⟩
      have B14 := B13.trans (b14.mono B13.size)
      go_wp2_with fail
      go_at_call 6
      refine (implImage unitL s ua w14 (by decide) (reads_own ou)).mono ?_
      rintro e w15 ⟨rfl, b15⟩
      rw [hA4]
      have B15 := B14.trans (b15.mono B14.size)
      go_wp2
      go_ret
      exact ⟨rfl, L6.trans (B15.mono L6.size)⟩
  · have hm : imageAns rs s = -1 := by
      unfold imageAns
      rw [if_neg (by simpa using hok)]
    rw [hm]
    go_wp2_with fail
    go_at_call 8
    refine (specRelOk rs r w3 hrm rr).mono ?_
    rintro e w4 ⟨rfl, b4⟩
    have L4 := L3.trans (b4.mono L3.size)
    cases h1 : relOk rs with
    | false =>
      go_wp2
      go_ret
      exact ⟨rfl, L4⟩
    | true =>
      have h2 : s < 0 ∨ 127 < s := by
        rcases Int.lt_or_le s 0 with h | h
        · exact .inl h
        · rcases Int.lt_or_le 127 s with h' | h'
          · exact .inr h'
          · exact absurd ⟨h1, small_in.2 ⟨h, h'⟩⟩ hok
      by_cases h3 : s < 0
      · go_wp2
        go_ret
        exact ⟨rfl, L4⟩
      · have h4 : (127 : Int) < s := by omega
        go_wp2
        go_ret
        exact ⟨rfl, L4⟩

set_option maxRecDepth 100000 in
theorem liftedFnImages (os : Os) (started : os.Started) (H : Type) (enc : TypeId × Value → H) :
    ReturnsInHanded {} Try.checked os 3 .any (Rows.fnImagesSpec.pre6 enc Try.prog Try.f3 Rows.fnImagesRow.domain false) (Rows.fnImagesSpec.post enc Try.prog Try.f3 false true false false) := by
  refine returnsInHanded_of_change (C := Try.checked) own started (by kernel_rfl) Try.func3
    (ChangeSpec.witness6 (enc := enc) (C := Try.checked) false ⟨#[], #[.slice none 0 0], []⟩ 8 (by kernel_rfl) (by kernel_rfl) (by kernel_rfl) (by kernel_rfl)) ?_
  intro W base args ds gs before hval0 hW hcnd _
  have hval : ∀ (j : Nat) t v, Try.f3.params[j]? = some t → args[j]? = some v → Value.okWide Try.prog W .any base t v := hval0
  have hW' := hW
  obtain ⟨p, q, hA0, hV, rfl, hfz, hnd⟩ := hW
  have hA : DataW.TrodAll enc Try.prog W 0 (fun _ => true) true Try.f3.params.toList args.toList ds p := hA0
  rw [Try.params3] at hA hval
  obtain ⟨v0, vs0, d0, ds0, p0, q0, hargs, rfl, rfl, h0, r0⟩ := trodAll_cons hA
  obtain ⟨rfl, rfl, rfl⟩ := trodAll_nil r0
  obtain rfl : args = #[v0] := by cases args; simp_all
  obtain ⟨rfl, rfl⟩ := trodVars_none hV
  obtain ⟨bs, hr, hl, hs⟩ := open_code Try.underlying22 Try.underlying5 cellsByte (hval 0 22 v0 rfl rfl) h0
  refine (walkImages bs v0 W hl hs hr).mono fun e W' ⟨he, hb⟩ => ?_
  subst he
  refine ⟨_, rfl, law_post (tb := 4) laidOut ?_ hW' rfl Try.underlying4 rfl rfl hb⟩
  exact all_readable (P := Try.prog) (by kernel_rfl)

theorem overFnImages : Rows.fnImagesRow.holds Try.pinned (OpenSpec.ofChange Rows.fnImagesSpec) :=
  OpenClaim.holds_of_wide 3 Try.f3 rfl rfl rfl rfl rfl rfl rfl ⟨rfl, rfl, rfl, rfl, rfl⟩ rfl rfl rfl rfl rfl (by kernel_rfl) Try.func3 (by kernel_rfl)
    (of_decide_eq_true (by kernel_rfl)) (by unfold Func.isWrapper; first | (rw [if_pos (by decide +kernel)]; kernel_rfl) | (rw [if_neg (by decide +kernel)]; exact ⟨rfl, rfl⟩))
    (fun os started H enc _ => liftedFnImages os started H enc)

/-- ████ THE STATEMENT ████ -/
theorem imagesHolds : Rows.FnImagesSaid :=
  overFnImages
#print axioms imagesHolds

end Go.Proofs.Ythamlamaobcnkab
