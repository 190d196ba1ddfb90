/-
  impl.Loops.
-/
import Derived.Test.YtjlfmjoallnojadSpecLoops
import Derived.Test.YtjlfmjoallnojadSets2
import Derived.Test.YtjlfmjoallnojadMarkSS
namespace Go.Proofs.Ytjlfmjoallnojad
open Go.RowKit
set_option linter.unusedVariables false
set_option linter.unusedSimpArgs false
set_option maxHeartbeats 4000000

theorem apart_snoc {us : List Value} {u : Value} {B : Nat} (h : ApartSS us) (hb : ∀ a ∈ us, ∀ k, a.ownBlock = some k → k < B) (hu : u.ownBlock = some B) : ApartSS (us ++ [u]) := by
  intro i j a b k hij hi hj ha hbk
  by_cases h1 : i < us.length
  · rw [List.getElem?_append_left h1] at hi
    by_cases h2 : j < us.length
    · rw [List.getElem?_append_left h2] at hj
      exact h i j a b k hij hi hj ha hbk
    · rw [List.getElem?_append_right (by omega)] at hj
      have : j - us.length = 0 := by have := (List.getElem?_eq_some_iff.1 hj).1; simp at this; omega
      rw [this] at hj
      simp at hj
      subst hj
      have := hb a (List.mem_of_getElem? hi) k ha
      rw [hu] at hbk
      simp at hbk
      omega
  · rw [List.getElem?_append_right (by omega)] at hi
    have h0 : i - us.length = 0 := by have := (List.getElem?_eq_some_iff.1 hi).1; simp at this; omega
    rw [h0] at hi
    simp at hi
    subst hi
    rw [hu] at ha
    simp at ha
    by_cases h2 : j < us.length
    · rw [List.getElem?_append_left h2] at hj
      have := hb b (List.mem_of_getElem? hj) k hbk
      omega
    · rw [List.getElem?_append_right (by omega)] at hj
      have : j - us.length = 0 := by have := (List.getElem?_eq_some_iff.1 hj).1; simp at this; omega
      omega

theorem tab_cell {w : World} {G : Nat} {gs : List (List Bool)} (h : TabAt w G gs) (i d : Nat) (hi : i < 12) (hd : d < 12) : w.cell? ⟨G, i * 12 + d, none⟩ = some (.bool (dm gs i d)) := by
  obtain ⟨h1, h2⟩ := h.rows i hi
  have := h2 d (.bool (dm gs i d)) (by
    rw [List.getElem?_map]
    unfold dm
    rw [List.getD_eq_getElem?_getD (l := gs.getD i []), List.getElem?_eq_getElem (by omega)]
    rfl)
  exact this

/-- What the search for loops has in hand. -/
structure ISt (v : Value) (w : World) (G : Nat) (gs : List (List Bool)) (ov : Value) (us : List Value) (xss : List (List Int)) (wr : World) : Prop where
  o : OwnSS wr (G + 1) ov us xss
  ap : ApartSS us
  t : TabAt wr G gs
  bl : Below w.heap.size w wr
  p : wr.heap[w.heap.size]? = some (.cells #[v] 26 (0, 0))
  sG : w.heap.size + 1 ≤ G

theorem ISt.below {v : Value} {w : World} {G : Nat} {gs : List (List Bool)} {ov : Value} {us : List Value} {xss : List (List Int)} {wr wr' : World} (h : ISt v w G gs ov us xss wr) (hb : Below wr.heap.size wr wr') : ISt v w G gs ov us xss wr' where
  o := h.o.below hb
  ap := h.ap
  t := h.t.kept (hb.block G h.t.lt)
  bl := h.bl.trans (hb.mono h.bl.size)
  p := (hb.block _ (Array.getElem?_eq_some_iff.1 h.p).1).trans h.p
  sG := h.sG

theorem ISt.app {v : Value} {w : World} {G : Nat} {gs : List (List Bool)} {ov v' u : Value} {us : List Value} {xss : List (List Int)} {xs : List Int} {W w' : World} {B : Nat} (h : ISt v w G gs ov us xss W) (hu : W.ownsRow (G + 1) 2 1 u xs.length (ints xs))
    (hB : u.ownBlock = some B) (hlt : ∀ a ∈ us, ∀ k, a.ownBlock = some k → k < B)
    (hr : w'.ownsRow (G + 1) 29 1 v' (xss.length + 1) (us ++ [u])) (hg : W.grownBy w' ov.ownBlock) : ISt v w G gs v' (us ++ [u]) (xss ++ [xs]) w' where
  o := h.o.appended hu hr hg
  ap := apart_snoc h.ap hlt hB
  t := h.t.kept (hg.block G h.t.lt (fun e => by have := (h.o.row.lt _ e.symm).1; omega))
  bl := h.bl.grown hg h.bl.size (fun k e => by have := (h.o.row.lt k e).1; have := h.sG; omega)
  p := (hg.block _ (Array.getElem?_eq_some_iff.1 h.p).1 (fun e => by have := (h.o.row.lt _ e.symm).1; have := h.sG; omega)).trans h.p
  sG := h.sG

theorem ISt.first {v : Value} {w w3 w4 : World} {gs : List (List Bool)} (T4 : TabAt w4 w3.heap.size gs) (L3 : Below w.heap.size w w3) (B3 : w3.heap[w.heap.size]? = some (.cells #[v] 26 (0, 0))) (gr : (w3.alloc (.cells zero144 51)).grownBy w4 (some w3.heap.size)) : ISt v w w3.heap.size gs (.slice none 0 0) [] [] w4 where
  o := nilS _ _
  ap := fun i j a b k _ hi => by simp at hi
  t := T4
  bl := (L3.alloc L3.size _).grown gr (by have := L3.size; simp; omega) (fun k e => by cases e; exact L3.size)
  p := by
    refine (gr.block _ ?_ ?_).trans ?_
    · have := set_lt B3; simp; omega
    · have := set_lt B3; simp; omega
    · rw [old_block (set_lt B3)]; exact B3
  sG := by have := set_lt B3; omega

theorem implLoops (ss : List Stm) (v : Value) (w : World) (hl : ss.length ≤ maxLen) (hv : Reads3 w v ss) :
    Calls Try.prog 7 #[.agg #[v]] w fun e w' => ∃ u us, e = .returned u ∧ OwnSS w' w.heap.size u us (loopsAns ss) ∧ ApartSS us ∧ Below w.heap.size w w' := by
  obtain ⟨i1, hj, hy0, hy1, hy2⟩ := info_parts infoSlice
  have hb0 : Below w.heap.size w (w.alloc (.cells #[v] 26)) := by go_grown
  have he := implProcOk ss v _ hl (reads3_below hv hb0)
  have H0 := heap_alloc_new w (.cells #[v] 26)
  have s0 : (w.alloc (.cells #[v] 26)).heap.size = w.heap.size + 1 := by simp
  have hzt := zeroSets.1
  cases hp : procOk ss
  · rw [hp] at he
    have hans : Hid (loopsAns ss = []) := by
      show loopsAns ss = []
      unfold loopsAns; rw [hp]; rfl
    go_enter Try.func7, Try.ntmps7
    go_wp2_with (go_at_call 25; refine he.mono ?_; rintro e w2 ⟨rfl, b2⟩)
    go_ret
    exact ⟨_, [], rfl, by rw [hans.out]; exact nilS _ _, fun i j a b k _ hi => by simp at hi, hb0.trans (b2.mono hb0.size)⟩
  rw [hp] at he
  have hans : Hid (loopsAns ss = loopsTo ss ss.length) := by
    show loopsAns ss = _
    unfold loopsAns; rw [hp]; rfl
  obtain ⟨_, h12, _⟩ := procOk_parts hp
  obtain ⟨R, hR⟩ := isReached_some hp (-1)
  have hlT : ∀ k, k ≤ ss.length → (loopsTo ss k).length ≤ 24 := fun k hk => by have := loopsTo_length ss k; omega
  go_enter Try.func7, Try.ntmps7
  go_wp2_with fail
  go_at_call 25
  refine he.mono ?_
  rintro e w2 ⟨rfl, b2⟩
  have L2 := hb0.trans (b2.mono hb0.size)
  have B2 := (b2.block w.heap.size (by omega)).trans H0
  obtain ⟨c2, f2⟩ := one_cell B2
  clear he
  go_wp2_with fail
  go_at_call 26
  refine (gatesOfAll ss R hR hp v w2 hl (reads3_below hv L2)).mono ?_
  rintro e w3 ⟨gs, rfl, g1, g2, g3, b3⟩
  have L3 := L2.trans (b3.mono L2.size)
  have B3 := (b3.block w.heap.size (by have := set_lt B2; omega)).trans B2
  clear c2 f2 B2
  have hfl : gs.flatten.length = 144 := by rw [flat_length gs g2, g1]
  go_wp2_with (refine wpList_storeTabG rfl rfl (.tmp 3) (.tmp 12) rfl w3.heap.size gs rfl rfl g1 g2 (zero_there (heap_alloc_new w3 _)) ?_; intro w4 T4 gr4; have S4 : ISt v w w3.heap.size gs (.slice none 0 0) [] [] w4 := ISt.first T4 L3 B3 gr4; obtain ⟨p0, pf0⟩ := one_cell S4.p; clear T4 gr4 L3 B3; obtain ⟨ao, vc, rfl, -⟩ := id hv; generalize w3.heap.size = G at *)
  generalize hvv : Value.slice ao ss.length vc = v at *
  clear hvv
  clear p0 pf0
  go_loopw [4, 16] (fun ov iv wr => ∃ (k : Nat) (us : List Value), k ≤ ss.length ∧ iv = .int .i64 k ∧ ISt v w G gs ov us (loopsTo ss k) wr) (fun _ iv _ => ss.length - (intOf iv).toNat)
  case atStart => exact ⟨0, [], Nat.zero_le _, rfl, S4⟩
  case round =>
    obtain ⟨k, us, hk, rfl, hS⟩ := hrel
    obtain ⟨ov, hov⟩ : ∃ x, x = u4 := ⟨_, rfl⟩
    subst hov
    obtain ⟨wa, hwa⟩ : ∃ x, x = wr := ⟨_, rfl⟩
    subst hwa
    clear S4
    by_cases hlt : k < ss.length
    · have hlt' : (k : Int) < (ss.length : Int) := by omega
      obtain ⟨p0, pf0⟩ := one_cell hS.p
      have hn := nextsOf ss k v wa hlt h12 (reads3_below hv hS.bl)
      have HNX : Hid (nextsS ss[k] k = nx ss k) := (nx_eq hlt).symm
      rw [HNX.out] at hn
      have hlk := hlT k (by omega)
      have hlk1 := hlT (k + 1) (by omega)
      have HRN : Hid (loopsTo ss (k + 1) = loopsTo ss k ++ loopsPart ss k (nx ss k).length) := rfl
      rw [HRN.out, List.length_append] at hlk1
      have HS : Hid (ISt v w G gs ov us (loopsTo ss k) wa) := hS
      clear hS
      generalize loopsTo ss k = xss at *
      go_wp2_with fail
      go_at_call 23
      refine hn.mono ?_
      rintro e w5 ⟨u5, rfl, own5, b5⟩
      clear hn p0 pf0
      have S5 := HS.out.below b5
      have sw : G + 1 ≤ wa.heap.size := HS.out.t.lt
      have N5 := own_mono own5 sw
      obtain ⟨a5, c5, rfl, -⟩ := reads_own own5
      rw [ints_length] at N5 ⊢
      obtain ⟨u5, hu5⟩ : ∃ u5, u5 = Value.slice a5 (nx ss k).length c5 := ⟨_, rfl⟩
      rw [← hu5] at N5
      clear own5 sw
      go_wp2_with fail
      go_loopw [4, 23] (fun ov iv wr => ∃ (m : Nat) (us : List Value), m ≤ (nx ss k).length ∧ iv = .int .i64 m ∧ ISt v w G gs ov us (xss ++ loopsPart ss k m) wr ∧ wr.ownsRow (G + 1) 2 1 u5 (nx ss k).length (ints (nx ss k))) (fun _ iv _ => (nx ss k).length - (intOf iv).toNat)
      case atStart => exact ⟨0, us, Nat.zero_le _, rfl, by rw [loopsPart_zero, List.append_nil]; exact S5, N5⟩
      case round =>
        obtain ⟨m, ui, hm, rfl, hS, hN⟩ := hrel
        obtain ⟨ov2, hov2⟩ : ∃ x, x = u4 := ⟨_, rfl⟩
        subst hov2
        obtain ⟨wb, hwb⟩ : ∃ x, x = wr := ⟨_, rfl⟩
        subst hwb
        clear S5 N5 b5 HS
        have hnl := nx_length ss k
        by_cases hlt2 : m < (nx ss k).length
        · have hlt2' : (m : Int) < ((nx ss k).length : Int) := by omega
          obtain ⟨i, hi, hil⟩ := nx_in hp hlt _ (List.getElem_mem hlt2)
          obtain ⟨a', c', e', hc'⟩ := reads_own hN
          rw [hu5] at e'
          obtain ⟨rfl, -, rfl⟩ : a5 = a' ∧ (nx ss k).length = (ints (nx ss k)).length ∧ c5 = c' := by simpa using e'
          obtain ⟨gn, offn, rfl, cN⟩ := hc' m (.int .i64 (i : Int)) (by simp [ints, hlt2, hi])
          have cT := tab_cell hS.t k i (by omega) (by omega)
          have hpn := loopsPart_next ss k m hlt2
          rw [hi] at hpn
          have HPN : Hid (loopsPart ss k (m + 1) = loopsPart ss k m ++ (if (i : Int) ∈ gatesL ss k then [[(k : Int), (i : Int)]] else [])) := hpn
          have hpl := loopsPart_length ss k m
          have hyl : (xss ++ loopsPart ss k m).length ≤ 26 := by rw [List.length_append]; omega
          clear hpn hpl hc' e' hi
          generalize hyy : xss ++ loopsPart ss k m = yss at *
          have HYY : Hid (xss ++ loopsPart ss k m = yss) := hyy
          clear hyy
          obtain ⟨q, hq⟩ : ∃ q, dm gs k i = q := ⟨_, rfl⟩
          rw [hq] at cT
          have HQ : Hid ((i : Int) ∈ gatesL ss k ↔ q = true) := by
            show (i : Int) ∈ gatesL ss k ↔ q = true
            rw [mem_gatesL, ← g3, hq]
          clear hq
          have hk12 : (k : Int) < 12 := by omega
          have hi12 : (i : Int) < 12 := by omega
          have HS : Hid (ISt v w G gs ov2 ui yss wb) := hS
          have HN : Hid (wb.ownsRow (G + 1) 2 1 u5 (nx ss k).length (ints (nx ss k))) := hN
          clear hS hN
          cases q
          · have HP : Hid (xss ++ loopsPart ss k (m + 1) = yss) := by
              show xss ++ loopsPart ss k (m + 1) = yss
              rw [HPN.out, if_neg (fun h => by have := HQ.out.1 h; cases this), List.append_nil]
              exact HYY.out
            go_wp2
            go_roundw
            case rel => exact ⟨m + 1, ui, by omega, by go_num, by rw [HP.out]; exact HS.out, HN.out⟩
            case measure => simp [intOf]; omega
          · have HP : Hid (xss ++ loopsPart ss k (m + 1) = yss ++ [[(k : Int), (i : Int)]]) := by
              show xss ++ loopsPart ss k (m + 1) = _
              rw [HPN.out, if_pos (HQ.out.2 rfl), ← List.append_assoc, HYY.out]
            have HB : Hid (((wb.alloc (.cells #[.int .i64 (k : Int), .int .i64 (i : Int)] 2)).alloc (.cells #[.slice (some ⟨wb.heap.size, 0, none⟩) 2 2] 29)).heap[wb.heap.size + 1]? = some (.cells #[.slice (some ⟨wb.heap.size, 0, none⟩) 2 2] 29 (0, 0))) := by
              show ((wb.alloc (.cells #[.int .i64 (k : Int), .int .i64 (i : Int)] 2)).alloc (.cells #[.slice (some ⟨wb.heap.size, 0, none⟩) 2 2] 29)).heap[wb.heap.size + 1]? = _
              have := heap_alloc_new (wb.alloc (.cells #[.int .i64 (k : Int), .int .i64 (i : Int)] 2)) (.cells #[.slice (some ⟨wb.heap.size, 0, none⟩) 2 2] 29)
              simpa using this
            have hone : ∀ u ∈ [Value.slice (some ⟨wb.heap.size, 0, none⟩) 2 2], u.oneCell' = true := fun u hu => by simp at hu; subst hu; rfl
            have hsz6 : G + 1 ≤ wb.heap.size := HS.out.t.lt
            have HPO : Hid ((wb.alloc (.cells #[.int .i64 (k : Int), .int .i64 (i : Int)] 2)).ownsRow (G + 1) 2 1 (.slice (some ⟨wb.heap.size, 0, none⟩) 2 2) ([(k : Int), (i : Int)] : List Int).length (ints [(k : Int), (i : Int)])) := pair_own (w := wb) (base := G + 1) k i hsz6
            have hyb : (yss.length + 1) * 24 ≤ 140737488355328 := by omega
            have hym : yss.length + 1 ≤ maxLen := by unfold maxLen; omega
            have hin : ∀ a ∈ ui, ∀ k, a.ownBlock = some k → k < wb.heap.size := fun a ha k hk => (HS.out.o.ltI ha hk).2
            go_wp2_with (first
              | (at_builtin; refine wpList_append_lies _ rfl (.tmp 32) (.tmp 36) 31 rfl (G + 1) 29 i1 (.slice none 0 0) 1 24 Try.underlying31 hj hy0 hy1 hy2 rfl (by decide) _ yss.length ui rfl (HS.out.o.below (by go_grown)).row ⟨wb.heap.size + 1, 0, none⟩ 1 1 [.slice (some ⟨wb.heap.size, 0, none⟩) 2 2] rfl rfl (World.news_of_block HB.out) hone (by omega) hym hyb (by simp; omega) _ rfl ?_; intro g7 cap7 w7 own7 grow7 hat7 hlt7; have S7 : Hid (ISt v w G gs (.slice (some ⟨g7, 0, none⟩) (yss.length + 1) cap7) (ui ++ [.slice (some ⟨wb.heap.size, 0, none⟩) 2 2]) (yss ++ [[(k : Int), (i : Int)]]) w7) := ISt.app (HS.out.below (by go_grown)) (own_kept HPO.out (by go_grown)) rfl hin own7 grow7; have N7 : Hid (w7.ownsRow (G + 1) 2 1 u5 (nx ss k).length (ints (nx ss k))) := row_app (own_kept HN.out (by go_grown)) (HS.out.o.below (by go_grown)).row grow7; clear own7 grow7 hat7 hlt7)
              | go_in)
            go_roundw
            case rel => exact ⟨m + 1, _, by omega, by go_num, by rw [HP.out]; exact S7.out, N7.out⟩
            case measure => simp [intOf]; omega
        · have hmm : m = (nx ss k).length := by omega
          subst hmm
          have HS : Hid (ISt v w G gs ov2 ui (xss ++ loopsPart ss k (nx ss k).length) wb) := hS
          clear hS hN
          go_wp2
          go_roundw
          case rel => exact ⟨k + 1, ui, by omega, by go_num, by rw [HRN.out]; exact HS.out⟩
          case measure => simp [intOf]; omega
    · have hkk : k = ss.length := by omega
      subst hkk
      have HS : Hid (ISt v w G gs ov us (loopsTo ss ss.length) wa) := hS
      clear hS
      go_wp2
      go_ret
      exact ⟨_, us, rfl, by rw [hans.out]; exact HS.out.o.mono (by have := HS.out.sG; omega), HS.out.ap, HS.out.bl⟩

end Go.Proofs.Ytjlfmjoallnojad
