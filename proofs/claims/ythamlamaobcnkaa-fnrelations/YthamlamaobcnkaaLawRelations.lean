/-
  The law FnRelations: to compose goes in any order of doing, the unit changes nothing, and over what is joined it goes to each.
-/
import Derived.Test.YthamlamaobcnkaaRelMath
import Derived.Test.YthamlamaobcnkaaDrawRel
import Derived.Test.YthamlamaobcnkaaOpenCode
namespace Go.Proofs.Ythamlamaobcnkaa
open Go.ChangeShapes Go.WideShapes Go.ChangeAt Go.RowKit
set_option linter.unusedVariables false
set_option linter.unusedSimpArgs false
set_option maxHeartbeats 8000000
set_option maxRecDepth 20000

theorem walkRelations (bs : List Int) (v : Value) (w : World) (hl : bs.length ≤ maxLen) (hb : ∀ x ∈ bs, 0 ≤ x ∧ x ≤ 255) (hv : Reads w v (bs.map (Value.int .u8))) :
    Calls Try.prog 3 #[v] w fun e w' => e = .returned (.bool true) ∧ Below w.heap.size w w' := by
  obtain ⟨i0, hi, hz0, hz1, hz2⟩ := info_parts infoInt
  by_cases hbig : (4096 : Int) < (bs.length : Int)
  · go_enter Try.func3, Try.ntmps3
    go_wp2_with (go_at_call 4; refine (lawBig bs v w hl hv).mono ?_; rintro e w1 ⟨rfl, rfl⟩; simp only [decide_eq_true hbig])
    go_ret
    exact ⟨rfl, Below.refl _ _⟩
  have hl' : bs.length ≤ 1048576 := by omega
  go_enter Try.func3, Try.ntmps3
  go_wp2_with fail
  go_at_call 4
  refine (lawBig bs v w hl hv).mono ?_
  rintro e w1 ⟨rfl, rfl⟩
  simp only [decide_eq_false (show ¬ (4096 : Int) < (bs.length : Int) by omega)]
  go_wp2_with fail
  go_at_call 5
  refine (drawCompose bs v w hl' hv).mono ?_
  rintro e w1 ⟨a, b, xs, ys, rfl, hx, hy, ra0, rb0, b1⟩
  have ra := ra0.reads
  have rb := rb0.reads
  have hxm : xs.length ≤ maxLen := by unfold maxLen; omega
  have hym : ys.length ≤ maxLen := by unfold maxLen; omega
  clear ra0 rb0
  go_wp2_with fail
  go_at_call 6
  refine (implCompose xs ys a b w1 hxm hym ra rb).mono ?_
  rintro e w2 ⟨c, rfl, oc, b2⟩
  have L2 := b1.trans (b2.mono b1.size)
  have ra := reads_below ra b2
  have rb := reads_below rb b2
  go_wp2_with fail
  go_at_call 7
  refine (implJoin xs ys a b w2 hxm hym ra rb).mono ?_
  rintro e w3 ⟨j, rfl, oj, b3⟩
  have L3 := L2.trans (b3.mono L2.size)
  have ra := reads_below ra b3
  have rb := reads_below rb b3
  have oc := own_kept oc b3
  go_wp2_with fail
  go_at_call 8
  refine (drawWithin bs v w3 hl' (reads_below hv L3)).mono ?_
  rintro e w4 ⟨x, y, ps, qs, rfl, hp, hq, rx0, ry0, b4⟩
  have rx := rx0.reads
  have ry := ry0.reads
  have hpm : ps.length ≤ maxLen := by unfold maxLen; omega
  have hqm : qs.length ≤ maxLen := by unfold maxLen; omega
  clear rx0 ry0
  have L4 := L3.trans (b4.mono L3.size)
  have ra := reads_below ra b4
  have rb := reads_below rb b4
  have rc := reads_own (own_kept oc b4)
  have rj := reads_own (own_kept oj b4)
  clear oc oj b1 b2 b3 b4 L2 L3
  have hcl : (compAns xs ys).length ≤ 7 := by
    unfold compAns
    split
    · rename_i h
      simp only [Bool.and_eq_true, relOk_iff] at h
      simp [comp, h.1.1]
    · simp
  have hjl : (joinAns xs ys).length ≤ 7 := by
    unfold joinAns
    split
    · rename_i h
      simp only [Bool.and_eq_true, relOk_iff] at h
      simp [joi, h.1.1, h.2.1]
    · simp
  have hcm : (compAns xs ys).length ≤ maxLen := by unfold maxLen; omega
  have hjm : (joinAns xs ys).length ≤ maxLen := by unfold maxLen; omega
  go_wp2_with fail
  go_at_call 10
  refine (specCompose xs ys a b w4 hxm hym ra rb).mono ?_
  rintro e w5 ⟨sc, rfl, osc, b5⟩
  go_wp2_with fail
  go_at_call 9
  refine (lawLike (compAns xs ys) (compAns xs ys) c sc w5 hcm hcm (reads_below rc b5) (reads_own osc)).mono ?_
  rintro e w6 ⟨rfl, b6⟩
  have B6 := b5.trans (b6.mono b5.size)
  simp only [decide_true]
  go_wp2_with fail
  go_at_call 11
  refine (specJoin xs ys a b w6 hxm hym (reads_below ra B6) (reads_below rb B6)).mono ?_
  rintro e w7 ⟨sj, rfl, osj, b7⟩
  have B7 := B6.trans (b7.mono B6.size)
  go_wp2_with fail
  go_at_call 9
  refine (lawLike (joinAns xs ys) (joinAns xs ys) j sj w7 hjm hjm (reads_below rj B7) (reads_own osj)).mono ?_
  rintro e w8 ⟨rfl, b8⟩
  have B8 := B7.trans (b8.mono B7.size)
  simp only [decide_true]
  go_wp2_with fail
  go_at_call 12
  refine (implWithin ps qs x y w8 hpm hqm (reads_below rx B8) (reads_below ry B8)).mono ?_
  rintro e w9 ⟨rfl, b9⟩
  have B9 := B8.trans (b9.mono B8.size)
  go_wp2_with fail
  go_at_call 13
  refine (specWithin ps qs x y w9 hpm hqm (reads_below rx B9) (reads_below ry B9)).mono ?_
  rintro e w10 ⟨rfl, b10⟩
  have B10 := B9.trans (b10.mono B9.size)
  go_wp2_with fail
  go_at_call 14
  refine (implRelOk xs a w10 hxm (reads_below ra B10)).mono ?_
  rintro e w11 ⟨rfl, b11⟩
  have B11 := B10.trans (b11.mono B10.size)
  go_wp2_with fail
  go_at_call 15
  refine (specRelOk xs a w11 hxm (reads_below ra B11)).mono ?_
  rintro e w12 ⟨rfl, b12⟩
  have B12 := B11.trans (b12.mono B11.size)
  go_wp2_with fail
  go_at_call 16
  refine (implUnit w12).mono ?_
  rintro e w13 ⟨iu, rfl, oiu, b13⟩
  have B13 := B12.trans (b13.mono B12.size)
  go_wp2_with fail
  go_at_call 17
  refine (specUnit w13).mono ?_
  rintro e w14 ⟨su, rfl, osu, b14⟩
  have B14 := B13.trans (b14.mono B13.size)
  go_wp2_with fail
  go_at_call 9
  refine (lawLike unitL unitL iu su w14 (by decide) (by decide) (reads_own (own_kept oiu b14)) (reads_own osu)).mono ?_
  rintro e w15 ⟨rfl, b15⟩
  have B15 := B14.trans (b15.mono B14.size)
  simp only [decide_true]
  have L15 := L4.trans (B15.mono L4.size)
  have ra := reads_below ra B15
  have rb := reads_below rb B15
  have rc := reads_below rc B15
  have rj := reads_below rj B15
  have rv := reads_below hv L15
  clear osc osj oiu osu b5 b6 b7 b8 b9 b10 b11 b12 b13 b14 b15 B6 B7 B8 B9 B10 B11 B12 B13 B14 B15 L4 rx ry
  have sh : ∃ co cc, c = .slice co (compAns xs ys).length cc := by
    obtain ⟨co, cc, h, _⟩ := id rc
    exact ⟨co, cc, by rw [h, ints_length]⟩
  have shj : ∃ co cc, j = .slice co (joinAns xs ys).length cc := by
    obtain ⟨co, cc, h, _⟩ := id rj
    exact ⟨co, cc, by rw [h, ints_length]⟩
  by_cases hab : relOk xs = true ∧ relOk ys = true
  · have hca : compAns xs ys = comp xs ys := by simp [compAns, hab.1, hab.2]
    have hja : joinAns xs ys = joi xs ys := by simp [joinAns, hab.1, hab.2]
    have hxs := relOk_iff.1 hab.1
    have hys := relOk_iff.1 hab.2
    have hc7 : (comp xs ys).length = 7 := by simp [comp, hxs.1]
    rw [hca] at rc sh hcm
    rw [hja] at rj hjm
    rw [hc7] at sh
    obtain ⟨co, cc, rfl⟩ := sh
    clear shj
    rw [hab.1]
    go_wp2_with fail
    have B0 : Below w15.heap.size w15 (w15.alloc (.cells #[] 2)) := by go_grown
    have O0 := made0 w15
    have HR : Hid ((∀ W, Below w15.heap.size w15 W → Reads W v (bs.map (Value.int .u8)))) := fun W hW => reads_below rv hW
    go_loopw [9, 10] (fun o i wr => ∃ (k : Nat) (ds : List Int), k ≤ 7 ∧ ds.length = k ∧ (∀ z ∈ ds, Small z) ∧ i = .int .i64 k ∧ wr.ownsRow w15.heap.size 2 1 o k (ints ds) ∧ Below w15.heap.size w15 wr) (fun _ i _ => 7 - (intOf i).toNat)
    case atStart => exact ⟨0, [], by omega, rfl, by simp, rfl, O0, B0⟩
    case round =>
      obtain ⟨k, ds, hk, hdl, hds, rfl, hown, hbr⟩ := hrel
      clear O0 B0
      by_cases hlt : k < 7
      · have hlt' : (k : Int) < 7 := by omega
        go_wp2_with fail
        go_at_call 18
        refine (lawPick bs v _ 128 wr hl' hb (HR.out wr hbr) (by omega) (by omega) (by omega)).mono ?_
        rintro e w16 ⟨z, rfl, hz0', hz1', b16⟩
        have L16 := hbr.trans (b16.mono hbr.size)
        have hb0 := L16.size
        have hown := own_kept hown b16
        have B1 : Hid (Below w15.heap.size w15 (w16.alloc (.cells #[.int .i64 z] 2))) := L16.alloc (by omega) _
        have HSZ : Hid (w15.heap.size ≤ (w16.alloc (.cells #[.int .i64 z] 2)).heap.size) := by exact B1.out.size
        go_wp2_with (first
          | (at_builtin; refine wpList_append_own _ rfl (.tmp 84) (.tmp 89) 24 rfl w15.heap.size 2 i0 (.int .i64 0) 1 8 Try.underlying24 hi hz0 hz1 hz2 rfl (by decide) _ _ _ rfl (hown.alloc _) ⟨w16.heap.size, 0, none⟩ 1 _ [.int .i64 z] rfl rfl (cell_one w16 _) (ints_oneCell [z]) (by unfold maxLen; omega) (by omega) HSZ.out ?_; intro v2 w17 own2 grow2 _; have L17 := below_app B1.out grow2 (fun q hq => (hown.lt q hq).1))
          | go_in)
        go_roundw
        case rel =>
          refine ⟨k + 1, ds ++ [z], by omega, by simp [hdl], fun y hy => ?_, by go_num, by rw [ints_append]; exact own2, L17⟩
          rcases List.mem_append.1 hy with h | h
          · exact hds y h
          · simp at h; subst h; exact ⟨hz0', by omega⟩
        case measure => simp [intOf]; omega
      · have hkk : k = 7 := by omega
        subst hkk
        have hdd : Smalls ds := ⟨hdl, hds⟩
        have hdok : relOk ds = true := relOk_iff.2 hdd
        have hdm : ds.length ≤ maxLen := by rw [hdl]; unfold maxLen; omega
        have rd := reads_own hown
        have ra := reads_below ra hbr
        have rb := reads_below rb hbr
        have rc := reads_below rc hbr
        have rj := reads_below rj hbr
        have LL := L15.trans (hbr.mono L15.size)
        clear hown rv HR hbr L15
        have hcs := comp_smalls hxs hys
        have hjs := joi_smalls hxs hys
        have hus := unit_smalls
        have cA : ∀ {p q : List Int}, Smalls p → Smalls q → compAns p q = comp p q := fun h1 h2 => by simp [compAns, relOk_iff.2 h1, relOk_iff.2 h2]
        have jA : ∀ {p q : List Int}, Smalls p → Smalls q → joinAns p q = joi p q := fun h1 h2 => by simp [joinAns, relOk_iff.2 h1, relOk_iff.2 h2]
        have wA : ∀ {p q : List Int}, Smalls p → Smalls q → withinAns p q = decide (joi p q = q) := fun h1 h2 => by simp [withinAns, relOk_iff.2 h1, relOk_iff.2 h2]
        have mL : ∀ {p : List Int}, Smalls p → p.length ≤ maxLen := fun h => by rw [h.1]; unfold maxLen; omega
        go_wp2_with fail
        go_at_call 6
        refine (implCompose (comp xs ys) ds _ _ wr (mL hcs) (mL hdd) rc rd).mono ?_
        rintro e w20 ⟨v1, rfl, ov1, b20⟩
        rw [cA hcs hdd] at ov1
        have rv1 := reads_own ov1
        clear ov1
        have hv1 := comp_smalls hcs hdd
        have ra := reads_below ra b20
        have rb := reads_below rb b20
        have rd := reads_below rd b20
        have rj := reads_below rj b20
        clear rc
        have LL := LL.trans (b20.mono LL.size)
        clear b20
        go_wp2_with fail
        go_at_call 6
        refine (implCompose ys ds _ _ w20 (mL hys) (mL hdd) rb rd).mono ?_
        rintro e w21 ⟨v2, rfl, ov2, b21⟩
        rw [cA hys hdd] at ov2
        have rv2 := reads_own ov2
        clear ov2
        have hv2 := comp_smalls hys hdd
        have ra := reads_below ra b21
        have rb := reads_below rb b21
        have rd := reads_below rd b21
        have rj := reads_below rj b21
        have rv1 := reads_below rv1 b21
        have LL := LL.trans (b21.mono LL.size)
        clear b21
        go_wp2_with fail
        go_at_call 6
        refine (implCompose xs (comp ys ds) _ _ w21 (mL hxs) (mL hv2) ra rv2).mono ?_
        rintro e w22 ⟨v3, rfl, ov3, b22⟩
        rw [cA hxs hv2] at ov3
        have rv3 := reads_own ov3
        clear ov3
        have hv3 := comp_smalls hxs hv2
        have ra := reads_below ra b22
        have rb := reads_below rb b22
        have rd := reads_below rd b22
        have rj := reads_below rj b22
        have rv1 := reads_below rv1 b22
        clear rv2
        have LL := LL.trans (b22.mono LL.size)
        clear b22
        go_wp2_with fail
        go_at_call 9
        refine (lawLike (comp (comp xs ys) ds) (comp xs (comp ys ds)) _ _ w22 (mL hv1) (mL hv3) rv1 rv3).mono ?_
        rintro e w23 ⟨rfl, b23⟩
        rw [decide_eq_true (comp_assoc hxs hys hdd)]
        have ra := reads_below ra b23
        have rb := reads_below rb b23
        have rd := reads_below rd b23
        have rj := reads_below rj b23
        clear rv3 rv1
        have LL := LL.trans (b23.mono LL.size)
        clear b23
        go_wp2_with fail
        go_at_call 6
        refine (implCompose ds (joi xs ys) _ _ w23 (mL hdd) (mL hjs) rd rj).mono ?_
        rintro e w24 ⟨v4, rfl, ov4, b24⟩
        rw [cA hdd hjs] at ov4
        have rv4 := reads_own ov4
        clear ov4
        have hv4 := comp_smalls hdd hjs
        have ra := reads_below ra b24
        have rb := reads_below rb b24
        have rd := reads_below rd b24
        have rj := reads_below rj b24
        have LL := LL.trans (b24.mono LL.size)
        clear b24
        go_wp2_with fail
        go_at_call 6
        refine (implCompose ds xs _ _ w24 (mL hdd) (mL hxs) rd ra).mono ?_
        rintro e w25 ⟨v5, rfl, ov5, b25⟩
        rw [cA hdd hxs] at ov5
        have rv5 := reads_own ov5
        clear ov5
        have hv5 := comp_smalls hdd hxs
        have ra := reads_below ra b25
        have rb := reads_below rb b25
        have rd := reads_below rd b25
        have rj := reads_below rj b25
        have rv4 := reads_below rv4 b25
        have LL := LL.trans (b25.mono LL.size)
        clear b25
        go_wp2_with fail
        go_at_call 6
        refine (implCompose ds ys _ _ w25 (mL hdd) (mL hys) rd rb).mono ?_
        rintro e w26 ⟨v6, rfl, ov6, b26⟩
        rw [cA hdd hys] at ov6
        have rv6 := reads_own ov6
        clear ov6
        have hv6 := comp_smalls hdd hys
        have ra := reads_below ra b26
        have rb := reads_below rb b26
        have rd := reads_below rd b26
        have rj := reads_below rj b26
        have rv4 := reads_below rv4 b26
        have rv5 := reads_below rv5 b26
        have LL := LL.trans (b26.mono LL.size)
        clear b26
        go_wp2_with fail
        go_at_call 7
        refine (implJoin (comp ds xs) (comp ds ys) _ _ w26 (mL hv5) (mL hv6) rv5 rv6).mono ?_
        rintro e w27 ⟨v7, rfl, ov7, b27⟩
        rw [jA hv5 hv6] at ov7
        have rv7 := reads_own ov7
        clear ov7
        have hv7 := joi_smalls hv5 hv6
        have ra := reads_below ra b27
        have rb := reads_below rb b27
        have rd := reads_below rd b27
        have rj := reads_below rj b27
        have rv4 := reads_below rv4 b27
        clear rv5 rv6
        have LL := LL.trans (b27.mono LL.size)
        clear b27
        go_wp2_with fail
        go_at_call 9
        refine (lawLike (comp ds (joi xs ys)) (joi (comp ds xs) (comp ds ys)) _ _ w27 (mL hv4) (mL hv7) rv4 rv7).mono ?_
        rintro e w28 ⟨rfl, b28⟩
        rw [decide_eq_true (comp_joi hdd hxs hys)]
        have ra := reads_below ra b28
        have rb := reads_below rb b28
        have rd := reads_below rd b28
        have rj := reads_below rj b28
        clear rv4 rv7
        have LL := LL.trans (b28.mono LL.size)
        clear b28
        go_wp2_with fail
        go_at_call 6
        refine (implCompose (joi xs ys) ds _ _ w28 (mL hjs) (mL hdd) rj rd).mono ?_
        rintro e w29 ⟨v8, rfl, ov8, b29⟩
        rw [cA hjs hdd] at ov8
        have rv8 := reads_own ov8
        clear ov8
        have hv8 := comp_smalls hjs hdd
        have ra := reads_below ra b29
        have rb := reads_below rb b29
        have rd := reads_below rd b29
        have rj := reads_below rj b29
        have LL := LL.trans (b29.mono LL.size)
        clear b29
        go_wp2_with fail
        go_at_call 6
        refine (implCompose xs ds _ _ w29 (mL hxs) (mL hdd) ra rd).mono ?_
        rintro e w30 ⟨v9, rfl, ov9, b30⟩
        rw [cA hxs hdd] at ov9
        have rv9 := reads_own ov9
        clear ov9
        have hv9 := comp_smalls hxs hdd
        have ra := reads_below ra b30
        have rb := reads_below rb b30
        have rd := reads_below rd b30
        have rj := reads_below rj b30
        have rv8 := reads_below rv8 b30
        have LL := LL.trans (b30.mono LL.size)
        clear b30
        go_wp2_with fail
        go_at_call 6
        refine (implCompose ys ds _ _ w30 (mL hys) (mL hdd) rb rd).mono ?_
        rintro e w31 ⟨v10, rfl, ov10, b31⟩
        rw [cA hys hdd] at ov10
        have rv10 := reads_own ov10
        clear ov10
        have hv10 := comp_smalls hys hdd
        have ra := reads_below ra b31
        have rb := reads_below rb b31
        have rj := reads_below rj b31
        have rv8 := reads_below rv8 b31
        have rv9 := reads_below rv9 b31
        clear rd
        have LL := LL.trans (b31.mono LL.size)
        clear b31
        go_wp2_with fail
        go_at_call 7
        refine (implJoin (comp xs ds) (comp ys ds) _ _ w31 (mL hv9) (mL hv10) rv9 rv10).mono ?_
        rintro e w32 ⟨v11, rfl, ov11, b32⟩
        rw [jA hv9 hv10] at ov11
        have rv11 := reads_own ov11
        clear ov11
        have hv11 := joi_smalls hv9 hv10
        have ra := reads_below ra b32
        have rb := reads_below rb b32
        have rj := reads_below rj b32
        have rv8 := reads_below rv8 b32
        clear rv9 rv10
        have LL := LL.trans (b32.mono LL.size)
        clear b32
        go_wp2_with fail
        go_at_call 9
        refine (lawLike (comp (joi xs ys) ds) (joi (comp xs ds) (comp ys ds)) _ _ w32 (mL hv8) (mL hv11) rv8 rv11).mono ?_
        rintro e w33 ⟨rfl, b33⟩
        rw [decide_eq_true (joi_comp hdd hxs hys)]
        have ra := reads_below ra b33
        have rb := reads_below rb b33
        have rj := reads_below rj b33
        clear rv8 rv11
        have LL := LL.trans (b33.mono LL.size)
        clear b33
        go_wp2_with fail
        go_at_call 16
        refine (implUnit w33).mono ?_
        rintro e w34 ⟨v12, rfl, ov12, b34⟩
        have rv12 := reads_own ov12
        clear ov12
        have ra := reads_below ra b34
        have rb := reads_below rb b34
        have rj := reads_below rj b34
        have LL := LL.trans (b34.mono LL.size)
        clear b34
        go_wp2_with fail
        go_at_call 6
        refine (implCompose xs unitL _ _ w34 (mL hxs) (mL hus) ra rv12).mono ?_
        rintro e w35 ⟨v13, rfl, ov13, b35⟩
        rw [cA hxs hus] at ov13
        have rv13 := reads_own ov13
        clear ov13
        have hv13 := comp_smalls hxs hus
        have ra := reads_below ra b35
        have rb := reads_below rb b35
        have rj := reads_below rj b35
        clear rv12
        have LL := LL.trans (b35.mono LL.size)
        clear b35
        go_wp2_with fail
        go_at_call 9
        refine (lawLike (comp xs unitL) xs _ _ w35 (mL hv13) (mL hxs) rv13 ra).mono ?_
        rintro e w36 ⟨rfl, b36⟩
        rw [decide_eq_true (comp_unit hxs)]
        have ra := reads_below ra b36
        have rb := reads_below rb b36
        have rj := reads_below rj b36
        clear rv13
        have LL := LL.trans (b36.mono LL.size)
        clear b36
        go_wp2_with fail
        go_at_call 16
        refine (implUnit w36).mono ?_
        rintro e w37 ⟨v14, rfl, ov14, b37⟩
        have rv14 := reads_own ov14
        clear ov14
        have ra := reads_below ra b37
        have rb := reads_below rb b37
        have rj := reads_below rj b37
        have LL := LL.trans (b37.mono LL.size)
        clear b37
        go_wp2_with fail
        go_at_call 6
        refine (implCompose unitL xs _ _ w37 (mL hus) (mL hxs) rv14 ra).mono ?_
        rintro e w38 ⟨v15, rfl, ov15, b38⟩
        rw [cA hus hxs] at ov15
        have rv15 := reads_own ov15
        clear ov15
        have hv15 := comp_smalls hus hxs
        have ra := reads_below ra b38
        have rb := reads_below rb b38
        have rj := reads_below rj b38
        clear rv14
        have LL := LL.trans (b38.mono LL.size)
        clear b38
        go_wp2_with fail
        go_at_call 9
        refine (lawLike (comp unitL xs) xs _ _ w38 (mL hv15) (mL hxs) rv15 ra).mono ?_
        rintro e w39 ⟨rfl, b39⟩
        rw [decide_eq_true (unit_comp hxs)]
        have ra := reads_below ra b39
        have rb := reads_below rb b39
        have rj := reads_below rj b39
        clear rv15
        have LL := LL.trans (b39.mono LL.size)
        clear b39
        go_wp2_with fail
        go_at_call 12
        refine (implWithin xs (joi xs ys) _ _ w39 (mL hxs) (mL hjs) ra rj).mono ?_
        rintro e w40 ⟨rfl, b40⟩
        rw [wA hxs hjs]
        rw [decide_eq_true (joi_left hxs hys)]
        have ra := reads_below ra b40
        have rb := reads_below rb b40
        have rj := reads_below rj b40
        have LL := LL.trans (b40.mono LL.size)
        clear b40
        go_wp2_with fail
        go_at_call 12
        refine (implWithin ys (joi xs ys) _ _ w40 (mL hys) (mL hjs) rb rj).mono ?_
        rintro e w41 ⟨rfl, b41⟩
        rw [wA hys hjs]
        rw [decide_eq_true (joi_right hxs hys)]
        have ra := reads_below ra b41
        have rb := reads_below rb b41
        have rj := reads_below rj b41
        have LL := LL.trans (b41.mono LL.size)
        clear b41
        go_wp2_with fail
        go_at_call 12
        refine (implWithin xs ys _ _ w41 (mL hxs) (mL hys) ra rb).mono ?_
        rintro e w42 ⟨rfl, b42⟩
        rw [wA hxs hys]
        have rb := reads_below rb b42
        have rj := reads_below rj b42
        clear ra
        have LL := LL.trans (b42.mono LL.size)
        clear b42
        go_wp2_with fail
        go_at_call 9
        refine (lawLike (joi xs ys) ys _ _ w42 (mL hjs) (mL hys) rj rb).mono ?_
        rintro e w43 ⟨rfl, b43⟩
        clear rj rb
        have LL := LL.trans (b43.mono LL.size)
        clear b43
        go_wp2
        go_ret
        exact ⟨rfl, LL⟩
  · have hca : compAns xs ys = [] := by
      unfold compAns
      rw [if_neg (by simpa using hab)]
    have hja : joinAns xs ys = [] := by
      unfold joinAns
      rw [if_neg (by simpa using hab)]
    have hwa : withinAns xs ys = false := by
      unfold withinAns
      cases h1 : relOk xs
      · rfl
      · cases h2 : relOk ys
        · rfl
        · exact absurd ⟨h1, h2⟩ hab
    rw [hca] at sh
    rw [hja] at shj
    obtain ⟨co, cc, rfl⟩ := sh
    obtain ⟨jo, jc, rfl⟩ := shj
    have hiw := implWithin xs ys a b w15 hxm hym ra rb
    rw [hwa] at hiw
    go_wp2_with (go_at_call 12; refine hiw.mono ?_; rintro e w16 ⟨rfl, b16⟩)
    go_ret
    exact ⟨rfl, L15.trans (b16.mono L15.size)⟩

set_option maxRecDepth 100000 in
theorem liftedFnRelations (os : Os) (started : os.Started) (H : Type) (enc : TypeId × Value → H) :
    ReturnsInHanded {} Try.checked os 3 .any (Rows.fnRelationsSpec.pre6 enc Try.prog Try.f3 Rows.fnRelationsRow.domain false) (Rows.fnRelationsSpec.post enc Try.prog Try.f3 false true false false) := by
  refine returnsInHanded_of_change (C := Try.checked) own started (by kernel_rfl) Try.func3
    (ChangeSpec.witness6 (enc := enc) (C := Try.checked) false ⟨#[], #[.slice none 0 0], []⟩ 8 (by kernel_rfl) (by kernel_rfl) (by kernel_rfl) (by kernel_rfl)) ?_
  intro W base args ds gs before hval0 hW hcnd _
  have hval : ∀ (j : Nat) t v, Try.f3.params[j]? = some t → args[j]? = some v → Value.okWide Try.prog W .any base t v := hval0
  have hW' := hW
  obtain ⟨p, q, hA0, hV, rfl, hfz, hnd⟩ := hW
  have hA : DataW.TrodAll enc Try.prog W 0 (fun _ => true) true Try.f3.params.toList args.toList ds p := hA0
  rw [Try.params3] at hA hval
  obtain ⟨v0, vs0, d0, ds0, p0, q0, hargs, rfl, rfl, h0, r0⟩ := trodAll_cons hA
  obtain ⟨rfl, rfl, rfl⟩ := trodAll_nil r0
  obtain rfl : args = #[v0] := by cases args; simp_all
  obtain ⟨rfl, rfl⟩ := trodVars_none hV
  obtain ⟨bs, hr, hl, hs⟩ := open_code Try.underlying22 Try.underlying5 cellsByte (hval 0 22 v0 rfl rfl) h0
  refine (walkRelations bs v0 W hl hs hr).mono fun e W' ⟨he, hb⟩ => ?_
  subst he
  refine ⟨_, rfl, law_post (tb := 4) laidOut ?_ hW' rfl Try.underlying4 rfl rfl hb⟩
  exact all_readable (P := Try.prog) (by kernel_rfl)

theorem overFnRelations : Rows.fnRelationsRow.holds Try.pinned (OpenSpec.ofChange Rows.fnRelationsSpec) :=
  OpenClaim.holds_of_wide 3 Try.f3 rfl rfl rfl rfl rfl rfl rfl ⟨rfl, rfl, rfl, rfl, rfl⟩ rfl rfl rfl rfl rfl (by kernel_rfl) Try.func3 (by kernel_rfl)
    (of_decide_eq_true (by kernel_rfl)) (by unfold Func.isWrapper; first | (rw [if_pos (by decide +kernel)]; kernel_rfl) | (rw [if_neg (by decide +kernel)]; exact ⟨rfl, rfl⟩))
    (fun os started H enc _ => liftedFnRelations os started H enc)

/-- ████ THE STATEMENT ████ -/
theorem relationsHolds : Rows.FnRelationsSaid :=
  overFnRelations
#print axioms relationsHolds

end Go.Proofs.Ythamlamaobcnkaa
