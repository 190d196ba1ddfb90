/-
  impl.Body.
-/
import Derived.Test.YtjlfmjoallnojadIsLoop
import Derived.Test.YtjlfmjoallnojadBodyA
namespace Go.Proofs.Ytjlfmjoallnojad
open Go.RowKit
set_option linter.unusedVariables false
set_option linter.unusedSimpArgs false
set_option maxHeartbeats 8000000

def noneT : List Bool := List.replicate 12 false
theorem noneT_length : noneT.length = 12 := rfl
theorem noneT_at (j : Nat) : noneT.getD j false = false := by
  unfold noneT
  rw [List.getD_eq_getElem?_getD, List.getElem?_replicate]
  split <;> rfl

/-- What has been found is among what is found. -/
def SubS (a b : List Bool) : Prop := ∀ j, a.getD j false = true → b.getD j false = true

theorem count12 {a b : List Bool} (ha : a.length = 12) (hb : b.length = 12) (hs : SubS a b) (hne : b ≠ a) : 12 - b.countP id < 12 - a.countP id := by
  have h := (count_lt a b (by omega) hs).2 (fun e => hne e.symm)
  have := List.countP_le_length (p := id) (l := b)
  omega

/-- How many are in the set that slot 8 points to. -/
def pw : Value → World → Nat
  | .pointer (some ⟨X, _, _⟩), w => (match w.heap[X]? with | some (.cells C _ _) => 12 - C.toList.countP (fun x => isT (some x)) | _ => 0)
  | _, _ => 0

theorem pw_eq {w : World} {X : Nat} {bs : List Bool} (h : SetAt w X bs) : pw (.pointer (some ⟨X, 0, none⟩)) w = 12 - bs.countP id := by
  show (match w.heap[X]? with | some (.cells C _ _) => 12 - C.toList.countP (fun x => isT (some x)) | _ => 0) = _
  rw [h]
  show 12 - ((bls bs).toArray.toList.countP (fun x => isT (some x))) = _
  rw [List.toList_toArray, List.countP_map]
  rfl

theorem implBody (ss : List Stm) (f g : Int) (A : List Int) (h1 : [f, g] ∈ loopsAns ss → IsBody ss f g A) (h0 : [f, g] ∉ loopsAns ss → A = []) (v : Value) (w : World) (hl : ss.length ≤ maxLen) (hv : Reads3 w v ss) :
    Calls Try.prog 6 #[.agg #[v], .int .i64 f, .int .i64 g] w fun e w' => ∃ u, e = .returned u ∧ w'.ownsRow w.heap.size 2 1 u A.length (ints A) ∧ Below w.heap.size w w' := by
  have hb0 : Below w.heap.size w (w.alloc (.cells #[v] 26)) := by go_grown
  have he := isLoop ss f g v _ hl (reads3_below hv hb0)
  have H0 := heap_alloc_new w (.cells #[v] 26)
  have s0 : (w.alloc (.cells #[v] 26)).heap.size = w.heap.size + 1 := by simp
  by_cases hok : [f, g] ∈ loopsAns ss
  case neg =>
    rw [decide_eq_false hok] at he
    obtain rfl := h0 hok
    go_enter Try.func6, Try.ntmps6
    go_wp2_with (go_at_call 21; refine he.mono ?_; rintro e w2 ⟨rfl, b2⟩)
    go_ret
    exact ⟨_, rfl, nil_own _ _, hb0.trans (b2.mono hb0.size)⟩
  rw [decide_eq_true hok] at he
  have hA := h1 hok
  obtain ⟨hp, f', g', rfl, rfl, hf, hg⟩ := loop_parts hok
  have h12 := (procOk_parts hp).2.1
  go_enter Try.func6, Try.ntmps6
  go_wp2_with fail
  go_at_call 21
  refine he.mono ?_
  rintro e w2 ⟨rfl, b2⟩
  have L2 := hb0.trans (b2.mono hb0.size)
  have B2 := (b2.block w.heap.size (by omega)).trans H0
  clear he
  have hS0 : BSnd ss f' g' ((noneT.set g' true).set f' true) := by
    have hn : noneT.length = 12 := rfl
    refine ⟨by rw [List.length_set, List.length_set]; exact hn, fun j hj => ?_, ?_, ?_⟩
    · rw [getDG_set _ _ _ _ (by rw [List.length_set]; omega), getDG_set _ _ _ _ (by omega)] at hj
      split at hj
      · rename_i e; subst e; exact .inr (Bk.start ss j g')
      · split at hj
        · rename_i e; exact .inl e
        · rw [noneT_at] at hj; cases hj
    · rw [getDG_set _ _ _ _ (by rw [List.length_set]; omega), getDG_set _ _ _ _ (by omega)]
      split
      · rfl
      · rw [if_pos rfl]
    · rw [getDG_set _ _ _ _ (by rw [List.length_set]; omega), if_pos rfl]
  have hw1 := setWith noneT g' w2 (by omega) noneT_length
  have hl1 : (noneT.set g' true).length = 12 := by rw [List.length_set]; rfl
  have hw2 : ∀ w', _ := fun w' => setWith (noneT.set g' true) f' w' (by omega) hl1
  generalize (noneT.set g' true).set f' true = bs0 at *
  generalize noneT.set g' true = bsg at *
  go_wp2_with fail
  go_at_call 22
  refine (show Calls Try.prog 22 _ w2 _ from hw1).mono ?_
  rintro e w3 ⟨rfl, b3⟩
  clear hw1
  go_wp2_with fail
  go_at_call 22
  refine (hw2 w3).mono ?_
  rintro e w4 ⟨rfl, b4⟩
  clear hw2
  have L3 := L2.trans (b3.mono L2.size)
  have L4 := L3.trans (b4.mono L3.size)
  have B3 := (b3.block _ (set_lt B2)).trans B2
  have B4 := (b4.block _ (set_lt B3)).trans B3
  clear b3 b4 b2 L2 L3 B2 B3
  go_wp2_with (first | (refine wpList_storeSetH rfl rfl (.tmp 7) (.tmp 21) rfl w4.heap.size bs0 rfl rfl hS0.len _ rfl (setAt_new w4) ?_; intro w5 T5 gr5) | fail)
  have S6 : BSt v w w4.heap.size w5.heap.size bs0 noneT (w5.alloc (.cells #[.bool false, .bool false, .bool false, .bool false, .bool false, .bool false, .bool false, .bool false, .bool false, .bool false, .bool false, .bool false] 46)) := by
    have hB := set_lt B4
    have hX := setAt_lt T5
    have L5 : Below w.heap.size w w5 := (L4.alloc L4.size _).grown gr5 (by have := L4.size; simp; omega) (fun k e => by cases e; omega)
    refine ⟨setAt_kept T5 (old_block hX), setAt_new w5, L5.alloc L5.size _, ?_, hB, hX⟩
    rw [old_block (by omega)]
    refine (gr5.block _ (by simp; omega) (by simp; omega)).trans ?_
    rw [old_block hB]
    exact B4
  generalize w5.alloc (.cells #[.bool false, .bool false, .bool false, .bool false, .bool false, .bool false, .bool false, .bool false, .bool false, .bool false, .bool false, .bool false] 46) = w6 at *
  clear T5 gr5 L4 B4 hl1
  generalize w4.heap.size = B at *
  generalize w5.heap.size = X0 at *
  go_loopw [8] (fun xv wr => ∃ (X : Nat) (bs bf : List Bool), xv = .pointer (some ⟨X, 0, none⟩) ∧ BSt v w B X bs bf wr ∧ BSnd ss f' g' bs ∧ bf.length = 12 ∧ SubS bf bs ∧ (∀ i : Nat, i < ss.length → ∀ y : Nat, (y : Int) ∈ nx ss i → y ≠ g' → bf.getD y false = true → bs.getD i false = true)) (fun xv wr => pw xv wr)
  case atStart => exact ⟨X0, bs0, noneT, rfl, S6, hS0, noneT_length, (fun j hj => absurd hj (by rw [noneT_at]; simp)), (fun i _ y _ _ hy => absurd hy (by rw [noneT_at]; simp))⟩
  case round =>
    obtain ⟨X, bs, bf, rfl, hS, hN, hbl, hsub, hcl⟩ := hrel
    obtain ⟨wa, hwa⟩ : ∃ x, x = wr := ⟨_, rfl⟩
    subst hwa
    clear S6 hS0
    have heq : ∀ w, (Op.equalIn 10000 46 (.agg (bls bs).toArray) (.agg (bls bf).toArray)).run Try.prog w = .ok (decide (bs = bf)) w := fun w => run_equalSets w bs bf hN.len hbl
    have HS : Hid (BSt v w B X bs bf wa) := hS
    have HM : Hid (pw (.pointer (some ⟨X, 0, none⟩)) wa = 12 - bf.countP id) := pw_eq hS.x
    clear hS
    by_cases hbb : bs = bf
    · have hd : decide (bs = bf) = true := decide_eq_true hbb
      rw [hd] at heq
      have hex := hN.exact (fun i hi y hy hne hb => hcl i hi y hy hne (hbb ▸ hb))
      have hAns : nums bs 0 = A := by
        refine sorted_ext _ _ (nums_sorted bs 0) hA.1 (fun x => ?_)
        rw [mem_nums, hA.2]
        constructor
        · rintro ⟨j, e, hj⟩
          exact ⟨f', g', j, rfl, rfl, by omega, (hex j).1 hj⟩
        · rintro ⟨f2, g2, i, e1, e2, rfl, h⟩
          obtain rfl : f' = f2 := by omega
          obtain rfl : g' = g2 := by omega
          exact ⟨i, by omega, (hex i).2 h⟩
      have hni := numbersIn bs _ wa (by rw [hN.len]; omega) (reads_set hN.len (range_of HS.out.b))
      rw [hAns] at hni
      clear hd hbb hcl hsub hex
      go_wp2_with (first | refine wpList_loadSetA rfl (.tmp 7) rfl B bs rfl hN.len HS.out.b ?_ | refine wpList_loadSetA rfl (.tmp 8) rfl X bf rfl hbl HS.out.x ?_)
      go_at_call 24
      refine hni.mono ?_
      rintro e w7 ⟨u, rfl, own7, b7⟩
      go_wp2
      go_ret
      exact ⟨u, rfl, own_mono own7 HS.out.bl.size, HS.out.bl.trans (b7.mono HS.out.bl.size)⟩
    · have hd : decide (bs = bf) = false := decide_eq_false hbb
      rw [hd] at heq
      have HLT : Hid (12 - bs.countP id < 12 - bf.countP id) := count12 hbl hN.len hsub hbb
      clear hd hbb hcl hsub
      obtain ⟨ao, vc, rfl, -⟩ := id hv
      go_wp2_with (first | refine wpList_loadSetA rfl (.tmp 7) rfl B bs rfl hN.len HS.out.b ?_ | refine wpList_loadSetA rfl (.tmp 8) rfl X bf rfl hbl HS.out.x ?_ | (refine wpList_storeSetH rfl rfl (.tmp 8) (.tmp 26) rfl X bs rfl rfl hN.len bf hbl HS.out.x ?_; intro w7 T7 gr7; have S7 := HS.out.storeX T7 gr7; clear T7 gr7; obtain ⟨p7, pf7⟩ := one_cell S7.p))
      clear p7 pf7
      generalize hvv : Value.slice ao ss.length vc = v at *
      have HVV : Hid (Value.slice ao ss.length vc = v) := hvv
      clear hvv HS heq
      go_loopw [9, 30] (fun _ iv wr => ∃ (k : Nat) (cs : List Bool), k ≤ ss.length ∧ iv = .int .i64 k ∧ BSt v w B X cs bs wr ∧ BSnd ss f' g' cs ∧ SubS bs cs ∧ (∀ i : Nat, i < k → ∀ y : Nat, (y : Int) ∈ nx ss i → y ≠ g' → bs.getD y false = true → cs.getD i false = true)) (fun _ iv _ => ss.length - (intOf iv).toNat)
      case atStart => exact ⟨0, bs, Nat.zero_le _, rfl, S7, hN, fun j hj => hj, fun i hi => by omega⟩
      case round =>
        obtain ⟨k, cs, hk, rfl, hS, hM, hsub, hcl⟩ := hrel
        obtain ⟨wb, hwb⟩ : ∃ x, x = wr := ⟨_, rfl⟩
        subst hwb
        clear S7
        by_cases hlt : k < ss.length
        · have hlt' : (k : Int) < (ss.length : Int) := by omega
          obtain ⟨p0, pf0⟩ := one_cell hS.p
          have hn := nextsOf ss k v wb hlt h12 (reads3_below hv hS.bl)
          have HNX : Hid (nextsS ss[k] k = nx ss k) := (nx_eq hlt).symm
          rw [HNX.out] at hn
          have HS : Hid (BSt v w B X cs bs wb) := hS
          have HCL : Hid (∀ i : Nat, i < k → ∀ y : Nat, (y : Int) ∈ nx ss i → y ≠ g' → bs.getD y false = true → cs.getD i false = true) := hcl
          clear hS hcl
          go_wp2_with fail
          go_at_call 23
          refine hn.mono ?_
          rintro e w8 ⟨u8, rfl, own8, b8⟩
          clear hn p0 pf0
          have S8 := HS.out.grow b8
          have sw : X + 1 ≤ wb.heap.size := setAt_lt HS.out.x
          have N8 := own_mono own8 sw
          obtain ⟨a8, c8, rfl, -⟩ := reads_own own8
          rw [ints_length] at N8 ⊢
          obtain ⟨u8, hu8⟩ : ∃ u8, u8 = Value.slice a8 (nx ss k).length c8 := ⟨_, rfl⟩
          rw [← hu8] at N8
          clear own8 sw
          go_wp2_with fail
          go_loopw [11, 37] (fun _ iv wr => ∃ (m : Nat) (ds : List Bool), m ≤ (nx ss k).length ∧ iv = .int .i64 m ∧ BSt v w B X ds bs wr ∧ BSnd ss f' g' ds ∧ SubS cs ds ∧ (∀ q, q < m → ∀ y : Nat, (nx ss k)[q]? = some (y : Int) → y ≠ g' → bs.getD y false = true → ds.getD k false = true) ∧ wr.ownsRow (X + 1) 2 1 u8 (nx ss k).length (ints (nx ss k))) (fun _ iv _ => (nx ss k).length - (intOf iv).toNat)
          case atStart => exact ⟨0, cs, Nat.zero_le _, rfl, S8, hM, fun j hj => hj, fun q hq => by omega, N8⟩
          case round =>
            obtain ⟨m, ds, hm, rfl, hS, hD, hsub2, hcl2, hO⟩ := hrel
            obtain ⟨wc, hwc⟩ : ∃ x, x = wr := ⟨_, rfl⟩
            subst hwc
            clear S8 N8 b8 HS
            have hnl := nx_length ss k
            have HS : Hid (BSt v w B X ds bs wc) := hS
            have HO : Hid (wc.ownsRow (X + 1) 2 1 u8 (nx ss k).length (ints (nx ss k))) := hO
            by_cases hlt2 : m < (nx ss k).length
            · have hlt2' : (m : Int) < ((nx ss k).length : Int) := by omega
              obtain ⟨y, hy, hyl⟩ := nx_in hp hlt _ (List.getElem_mem hlt2)
              obtain ⟨a', c', e', hc'⟩ := reads_own hO
              rw [hu8] at e'
              obtain ⟨rfl, -, rfl⟩ : a8 = a' ∧ (nx ss k).length = (ints (nx ss k)).length ∧ c8 = c' := by simpa using e'
              obtain ⟨gn, offn, rfl, cN⟩ := hc' m (.int .i64 (y : Int)) (by simp [ints, hlt2, hy])
              obtain ⟨cy, -⟩ := bcell_of hS.b y (by rw [hD.len]; omega)
              obtain ⟨ck, fk⟩ := bcell_of hS.b k (by rw [hD.len]; omega)
              have e1 : ds[y]'(by rw [hD.len]; omega) = ds.getD y false := by rw [List.getD_eq_getElem?_getD, List.getElem?_eq_getElem (by rw [hD.len]; omega)]; rfl
              rw [e1] at cy
              generalize ds[k]'(by rw [hD.len]; omega) = zk at ck
              have hym : (y : Int) ∈ nx ss k := hy ▸ List.getElem_mem hlt2
              have HY : Hid ((nx ss k)[m]? = some (y : Int)) := by
                show (nx ss k)[m]? = _
                rw [List.getElem?_eq_getElem hlt2, hy]
              have hk12 : (k : Int) < 12 := by omega
              have hy12 : (y : Int) < 12 := by omega
              clear hc' e' e1 hy hS hO
              have hput : y ≠ g' → ds.getD y false = true → BSnd ss f' g' (ds.set k true) := fun h1 h2 => hD.put h1 h2 hlt (by omega) hym
              have HPUT : Hid (y ≠ g' → ds.getD y false = true → BSnd ss f' g' (ds.set k true)) := hput
              have HCL2 : Hid (∀ q, q < m → ∀ y : Nat, (nx ss k)[q]? = some (y : Int) → y ≠ g' → bs.getD y false = true → ds.getD k false = true) := hcl2
              have hdl := hD.len
              have HD : Hid (BSnd ss f' g' ds) := hD
              have keep : (y ≠ g' → bs.getD y false = true → ds.getD k false = true) → ∀ q, q < m + 1 → ∀ z : Nat, (nx ss k)[q]? = some (z : Int) → z ≠ g' → bs.getD z false = true → ds.getD k false = true := fun h q hq z hz => by
                by_cases e : q = m
                · subst e
                  rw [HY.out] at hz
                  simp only [Option.some.injEq] at hz
                  obtain rfl : y = z := by omega
                  exact h
                · exact HCL2.out q (by omega) z hz
              have KEEP : Hid _ := keep
              clear hput hcl2 hD keep
              by_cases hyg : y = g'
              · have K2 := KEEP.out (fun h => absurd hyg h)
                have HK2 : Hid _ := K2
                subst hyg
                clear K2
                go_wp2
                go_roundw
                case rel => exact ⟨m + 1, ds, by omega, by go_num, HS.out, HD.out, hsub2, HK2.out, HO.out⟩
                case measure => simp [intOf]; omega
              · have hne : ¬ (y : Int) = (g' : Int) := by omega
                have hbq : ((y : Int) == (g' : Int)) = false := by simpa using hne
                obtain ⟨zy, hzy⟩ : ∃ z, ds.getD y false = z := ⟨_, rfl⟩
                rw [hzy] at cy
                cases zy
                · have HK2 : Hid _ := KEEP.out (fun _ h => by have := hsub2 y (hsub y h); rw [hzy] at this; cases this)
                  clear hzy
                  go_wp2
                  go_roundw
                  case rel => exact ⟨m + 1, ds, by omega, by go_num, HS.out, HD.out, hsub2, HK2.out, HO.out⟩
                  case measure => simp [intOf]; omega
                · have HP2 : Hid (BSnd ss f' g' (ds.set k true)) := HPUT.out hyg hzy
                  have HS2 : Hid (BSt v w B X (ds.set k true) bs (wc.setCell ⟨B, k, none⟩ (.bool true))) := HS.out.setB k true
                  have HO2 : Hid ((wc.setCell ⟨B, k, none⟩ (.bool true)).ownsRow (X + 1) 2 1 u8 (nx ss k).length (ints (nx ss k))) := own_grown HO.out (grown_setCell1 wc B k (.bool true)) (fun q hq e => by have := (HO.out.lt q hq).1; have := HS.out.hX; simp at e; omega)
                  have HT : Hid ((ds.set k true).getD k false = true) := by
                    show (ds.set k true).getD k false = true
                    rw [getDG_set _ _ _ _ (by rw [hdl]; omega), if_pos rfl]
                  have HSB : Hid (SubS cs (ds.set k true)) := fun j hj => by
                    rw [getDG_set _ _ _ _ (by rw [hdl]; omega)]
                    split
                    · rfl
                    · exact hsub2 j hj
                  clear hzy
                  go_wp2
                  go_roundw
                  case rel => exact ⟨m + 1, ds.set k true, by omega, by go_num, HS2.out, HP2.out, HSB.out, fun _ _ _ _ _ _ => HT.out, HO2.out⟩
                  case measure => simp [intOf]; omega
            · have hmm : m = (nx ss k).length := by omega
              subst hmm
              clear hS hO
              go_wp2
              go_roundw
              case rel =>
                refine ⟨k + 1, ds, by omega, by go_num, HS.out, hD, fun j hj => hsub2 j (hsub j hj), fun i hi y hy hne hb => ?_⟩
                by_cases e : i = k
                · subst e
                  obtain ⟨q, hq, hqe⟩ := List.getElem_of_mem hy
                  exact hcl2 q hq y (by rw [List.getElem?_eq_getElem hq, hqe]) hne hb
                · exact hsub2 i (HCL.out i (by omega) y hy hne hb)
              case measure => simp [intOf]; omega
        · have hkk : k = ss.length := by omega
          subst hkk
          have HS : Hid (BSt v w B X cs bs wb) := hS
          clear hS
          go_wp2_with (first | refine wpList_loadSetA rfl (.tmp 8) rfl X bs rfl hN.len HS.out.x ?_ | (refine wpList_storeSetH rfl rfl (.tmp 8) (.tmp 53) rfl wb.heap.size bs rfl rfl hN.len _ rfl (setAt_new wb) ?_; intro w9 T9 gr9; have S9 := (HS.out.grow (by go_grown)).moveX (setAt_new wb) (Nat.lt_trans HS.out.hX (setAt_lt HS.out.x)) |>.storeX T9 gr9; clear gr9))
          obtain rfl := HVV.out
          have HS9 : Hid (BSt (.slice ao ss.length vc) w B wb.heap.size cs bs w9) := S9
          have HT9 : Hid (SetAt w9 wb.heap.size bs) := T9
          clear S9 T9
          go_wp2
          go_roundw
          case rel => exact ⟨wb.heap.size, cs, bs, rfl, HS9.out, hM, hN.len, hsub, hcl⟩
          case measure =>
            show pw (.pointer (some ⟨wb.heap.size, 0, none⟩)) w9 < pw (.pointer (some ⟨X, 0, none⟩)) wa
            rw [pw_eq HT9.out, HM.out]
            exact HLT.out

end Go.Proofs.Ytjlfmjoallnojad
