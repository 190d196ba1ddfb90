/-
  impl.Order.
-/
import Derived.Test.YtmloeldgeegddaaOrderI
namespace Go.Proofs.Ytmloeldgeegddaa
open Go.RowKit
set_option linter.unusedVariables false
set_option maxHeartbeats 4000000
set_option maxRecDepth 20000

theorem implOrder (ps : List (List Stm)) (o : List (List Nat)) (ho : OrdA ps o) (v : Value) (w : World) (hl : ps.length ≤ maxLen) (hp : ∀ p ∈ ps, p.length ≤ maxLen) (hv : ReadsP w v ps) :
    Calls Try.prog 35 #[.agg #[v]] w fun e w' => ∃ u us, e = .returned u ∧ OwnSS w' w.heap.size u us (castLL o) ∧ ApartSS us ∧ Below w.heap.size w w' := by
  obtain ⟨i1, hjS, hy0, hy1, hy2⟩ := info_parts infoSlice
  have hb0 : Below w.heap.size w (w.alloc (.cells #[v] 26)) := by go_grown
  have H0 := heap_alloc_new w (.cells #[v] 26)
  have s0 : (w.alloc (.cells #[v] 26)).heap.size = w.heap.size + 1 := by simp
  cases hok : programOk ps
  · have hci := implCircles ps [] ⟨by simp [hok], fun _ => rfl⟩ v _ hl hp (readsP_below hv hb0)
    obtain rfl := ho.2 hok
    go_enter Try.func35, Try.ntmps35
    go_wp2_with fail
    go_at_call 34
    refine hci.mono ?_
    rintro e w2 ⟨u, us, rfl, hO, hA, b2⟩
    have L2 := hb0.trans (b2.mono hb0.size)
    obtain ⟨ua, uc, hu⟩ : ∃ a c, u = .slice a 0 c := by
      obtain ⟨a, c, e, _⟩ := reads_own hO.row
      have hl0 : us.length = 0 := by have := hO.len; simpa [castLL] using this
      exact ⟨a, c, by rw [e, hl0]⟩
    subst hu
    clear hci
    go_wp2
    refine wp_loop_rounds 1 ?_
    rw [rounds_succ]
    go_wp2
    go_ret
    have s2 := b2.size
    exact ⟨_, [], rfl, nilS _ _, fun i j a b k _ h => by simp at h, L2.alloc L2.size _⟩
  · obtain ⟨r, c, hG⟩ := ho.1 hok
    obtain ⟨h4, h1, _⟩ := programOk_len hok
    have hci := implCircles ps c ⟨fun _ => ⟨r, o, hG⟩, by simp [hok]⟩ v _ hl hp (readsP_below hv hb0)
    have hc4 : c.length ≤ 4 := by
      have := foldS_len ps.length r ps.length
      have e2 : (circS ps.length r).length ≤ ps.length := this
      rw [hG.circ] at e2
      omega
    go_enter Try.func35, Try.ntmps35
    go_wp2_with fail
    go_at_call 34
    refine hci.mono ?_
    rintro e w2 ⟨u, us, rfl, hO, hA, b2⟩
    clear hci
    have s2 := b2.size
    have L2 := hb0.trans (b2.mono hb0.size)
    rw [s0] at hO
    obtain ⟨L, hLs, hGR⟩ := ownSS_GR hO hA (fun g hg => (groups_each hG hg).1)
    have hLl : L.length = c.length := by rw [← hLs]; simp
    have BA : Below w2.heap.size w2 (w2.alloc (.cells #[u] 52)) := by go_grown
    have S0 : OSt ps v w r o w2.heap.size u (.slice none 0 0) L [] 4 (w2.alloc (.cells #[u] 52)) := by
      refine ⟨(BA.block _ (by omega)).trans ((b2.block _ (by omega)).trans H0), heap_alloc_new w2 _, by omega, hGR.same (fun k hk => BA.block k (hGR.row.lt k hk).2) (fun x hx k hk => BA.block k ((hGR.each x hx).2.lt k hk).2), GR.nil _ _, by simp, fun k _ h => by simp [Value.ownBlock] at h, ?_, ?_, by simp; omega, fun x hx => ?_, L2.trans (BA.mono L2.size)⟩
      · rw [hLs]; exact hG.asked.ordI
      · rw [hLs, hG.asked.ordI, hG.asked.len]; exact hLl.symm
      · exact (groups_each hG (by rw [← hLs]; exact List.mem_map_of_mem hx)).2
    obtain ⟨ua, um, uc, hu⟩ : ∃ a m c, u = .slice a m c := by
      obtain ⟨a, c, e, _⟩ := reads_own hO.row
      exact ⟨_, _, _, e⟩
    have HS0 : Hid _ := S0
    have HU : Hid _ := hu
    clear S0 BA hO hA hGR hLs hLl
    subst hu
    go_wp2
    go_loopw [4] (fun ov wr => ∃ (L Lo : List LV) (lv : Value) (f : Nat), lenOf ov = Lo.length ∧ OSt ps v w r o w2.heap.size lv ov L Lo f wr) (fun ov _ => 4 - lenOf ov)
    case atStart => exact ⟨L, [], _, 4, rfl, HS0.out⟩
    case round =>
      obtain ⟨L, Lo, lv, f, hov, hS⟩ := hrel
      clear HS0 HU
      have HS : Hid (OSt ps v w r o w2.heap.size lv u4 L Lo f wr) := hS
      have HOV : Hid _ := hov
      obtain ⟨cK, fK⟩ := one_cell hS.lft
      have zK := (Array.getElem?_eq_some_iff.1 hS.lft).1
      have zP := (Array.getElem?_eq_some_iff.1 hS.box).1
      have htot := hS.tot
      by_cases h0 : 0 < L.length
      · obtain ⟨f', i, hf, hi, hfi, hany, hor, hlen'⟩ := ord_next (left := L.map Prod.snd) (by rw [hS.len]; simp) (by simpa using h0)
        have hi' : i < L.length := by simpa using hi
        obtain ⟨g, cap, hlv⟩ : ∃ g cap, lv = .slice (some ⟨g, 0, none⟩) L.length cap := by
          rcases own_shape hS.gl.row with ⟨_, e, _⟩ | ⟨g, cp, e, _⟩
          · omega
          · exact ⟨g, cp, e⟩
        subst hlv
        have hidx := indexOrder L (noOther r (L.map Prod.snd)) (.slice (some ⟨g, 0, none⟩) L.length cap) (.pointer (some ⟨w.heap.size, 0, none⟩)) (.pointer (some ⟨w2.heap.size, 0, none⟩)) wr (by omega) (gr_readsL hS.gl) (fun x hx W hW =>
          orderClosure ps r c o hok hG x L _ v W w.heap.size w2.heap.size hl hp (readsP_below (readsP_below hv hS.below) hW) (by omega) (hS.gl.each x hx).1 (hS.hds x hx) (reads_below (reads_own (hS.gl.each x hx).2) hW) (readsL_below (gr_readsL hS.gl) hW) ((hW.block _ zP).trans hS.box) ((hW.block _ zK).trans hS.lft))
        rw [hany, hfi] at hidx
        simp only [if_true] at hidx
        have h0' : (0 : Int) < (L.length : Int) := by omega
        have hiL : (i : Int) < (L.length : Int) := by omega
        have HF : Hid (f = f' + 1 ∧ ordI r f (L.map Prod.snd) = (L.map Prod.snd).getD i [] :: ordI r f' ((L.map Prod.snd).eraseIdx i) ∧ (ordI r f' ((L.map Prod.snd).eraseIdx i)).length = ((L.map Prod.snd).eraseIdx i).length) := ⟨hf, hor, hlen'⟩
        clear hS hf hor hlen' hany hfi hi hov
        go_wp2_with fail
        go_at_call 84
        refine hidx.mono ?_
        rintro e w3 ⟨rfl, b3⟩
        clear hidx
        have S3 := HS.out.kept b3
        obtain ⟨X, hX⟩ : ∃ X : LV, L.getD i lv0 = X := ⟨_, rfl⟩
        have hXm : X ∈ L := by rw [← hX]; exact mem_getD' hi'
        have hXi : L[i]? = some X := by rw [← hX]; exact getD_some' hi'
        obtain ⟨hX0, hXo⟩ := S3.gl.each X hXm
        obtain ⟨xo, xm, xc, hXv⟩ : ∃ a m c, X.1 = .slice a m c := by
          obtain ⟨a, c, e, _⟩ := reads_own hXo
          exact ⟨_, _, _, e⟩
        have hGRw : GRow w3 (w.heap.size + 1) g L.length cap L := ⟨S3.gl.row, S3.gl.each, S3.gl.ap⟩
        obtain ⟨cI, _⟩ := hGRw.cell hi'
        rw [hX, hXv] at cI
        obtain ⟨cK3, fK3⟩ := one_cell S3.lft
        have zK3 := (Array.getElem?_eq_some_iff.1 S3.lft).1
        have BA : Below w3.heap.size w3 (w3.alloc (.cells #[.slice xo xm xc] 30)) := by go_grown
        have SA := S3.kept BA
        have HSA : Hid _ := SA
        have HROW : Hid ((w3.alloc (.cells #[.slice xo xm xc] 30)).ownsRow (w.heap.size + 1) 30 1 u4 Lo.length (Lo.map Prod.fst)) := SA.go.row
        have HC1 : Hid (∀ (j : Nat) (u : Value), [Value.slice xo xm xc][j]? = some u → (w3.alloc (.cells #[.slice xo xm xc] 30)).cell? ((⟨w3.heap.size, 0, none⟩ : Addr).add j) = some u) := by
          have := World.news_of_block (heap_alloc_new w3 (.cells #[.slice xo xm xc] 30))
          simp at this
          exact this
        have hkw := SA.kge
        have zw3 : w.heap.size + 1 ≤ w3.heap.size := by omega
        have HXX : Hid (X ∈ L ∧ L[i]? = some X ∧ X.2 ≠ [] ∧ X.1 = .slice xo xm xc) := ⟨hXm, hXi, hX0, hXv⟩
        -- behind the append
        have HK4 : Hid (∀ g4 c4 w4, w4.ownsRow (w.heap.size + 1) 30 1 (.slice (some ⟨g4, 0, none⟩) (Lo.length + 1) c4) (Lo.length + 1) (Lo.map Prod.fst ++ [.slice xo xm xc]) → (w3.alloc (.cells #[.slice xo xm xc] 30)).grownBy w4 u4.ownBlock → (u4.ownBlock = some g4 ∨ g4 = (w3.alloc (.cells #[.slice xo xm xc] 30)).heap.size) →
            w4.cell? ⟨w2.heap.size, 0, none⟩ = some (.slice (some ⟨g, 0, none⟩) L.length cap) ∧ w4.heap[w2.heap.size]? = some (.cells #[.slice (some ⟨g, 0, none⟩) L.length cap] 52 (0, 0)) ∧ GRow w4 (w.heap.size + 1) g L.length cap L ∧ GR w4 (w.heap.size + 1) (.slice (some ⟨g4, 0, none⟩) (Lo.length + 1) c4) (Lo ++ [X]) ∧ w4.heap[w.heap.size]? = some (.cells #[v] 26 (0, 0)) ∧ Below w.heap.size w w4 ∧ g ≠ g4) := by
          intro g4 c4 w4 o4 gr4 pl4
          have nK : ∀ k, u4.ownBlock = some k → k ≠ w2.heap.size := fun k hk e => by
            subst e
            rcases SA.go.row.2 with ⟨e1, _⟩ | ⟨g', cap', cur, e1, _, hg', _⟩
            · rw [e1] at hk; cases hk
            · rw [e1] at hk
              have e2 : g' = w2.heap.size := by simpa [Value.ownBlock] using hk
              rw [e2, SA.lft] at hg'
              simp only [Option.some.injEq, Obj.cells.injEq] at hg'
              exact absurd hg'.2.1 (by decide)
          have kb := (gr4.block w2.heap.size (Array.getElem?_eq_some_iff.1 SA.lft).1 (fun e => nK _ e.symm rfl)).trans SA.lft
          have hgne : (Value.slice (some ⟨g, 0, none⟩) L.length cap).ownBlock = some g := rfl
          have ggl := SA.gl.row.lt g rfl
          refine ⟨(one_cell kb).1, kb, ?_, ?_, ?_, SA.below.grown gr4 SA.below.size (fun k e => by have := (SA.go.row.lt k e).1; omega), ?_⟩
          · have := SA.gl.same (W' := w4) (fun k hk => gr4.block k (SA.gl.row.lt k hk).2 (fun e => SA.rows k hk e.symm)) (fun x hx k hk => gr4.block k ((SA.gl.each x hx).2.lt k hk).2 (fun e => row_kind (SA.gl.each x hx).2 SA.go.row (by decide) hk e.symm))
            exact ⟨this.row, this.each, this.ap⟩
          · refine SA.go.appended hX0 (SA.gl.each X hXm).2 (fun y hy k hk e => SA.ap X hXm y hy k e hk) gr4 (by rw [hXv]; exact o4)
          · exact (gr4.block w.heap.size (Array.getElem?_eq_some_iff.1 SA.box).1 (fun e => by have := (SA.go.row.lt _ e.symm).1; omega)).trans SA.box
          · intro e
            subst e
            rcases pl4 with h | h
            · exact SA.rows g rfl h
            · omega
        clear S3 SA BA hGRw hXm hXi hX0 hXv hXo hX cK fK
        go_wp2_with (first
          | (at_builtin; refine wpList_append_lies _ rfl (.tmp 14) (.tmp 19) 52 rfl (w.heap.size + 1) 30 i1 (.slice none 0 0) 1 24 Try.underlying52 hjS hy0 hy1 hy2 rfl (by decide) u4 Lo.length (Lo.map Prod.fst) rfl HROW.out ⟨w3.heap.size, 0, none⟩ 1 1 [.slice xo xm xc] rfl rfl HC1.out (by intro y hy; simp at hy; subst hy; rfl) (by decide) (by unfold maxLen; omega) (by omega) (by simp; omega) _ rfl ?_; intro g4 c4 w4 own4 grow4 pl4 lt4; obtain ⟨k1, k2, k3, k4, k5, k6, k7⟩ := HK4.out g4 c4 w4 own4 grow4 pl4; (have K2 : Hid _ := k2); (have K3 : Hid _ := k3); (have K4 : Hid _ := k4); (have K5 : Hid _ := k5); (have K6 : Hid _ := k6); clear k2 k3 k4 k5 k6)
          | fail)
        have hdel := deleteAt L g cap (w.heap.size + 1) i w4 hi' (by omega) K3.out
        rw [show ((i + 1 : Nat) : Int) = (i : Int) + 1 by omega] at hdel
        go_at_call 87
        refine hdel.mono ?_
        rintro e w5 ⟨rfl, hR5, g5⟩
        clear hdel
        have hgK : g ≠ w2.heap.size := fun e => by
          rcases K3.out.row.2 with ⟨e1, _⟩ | ⟨g', cap', cur, e1, _, hg', _⟩
          · cases e1
          · cases e1
            rw [e, K2.out] at hg'
            simp only [Option.some.injEq, Obj.cells.injEq] at hg'
            exact absurd hg'.2.1 (by decide)
        have ggl := K3.out.row.lt g rfl
        have zK4 := (Array.getElem?_eq_some_iff.1 K2.out).1
        have kb5 := (g5.block w2.heap.size zK4 (fun e => hgK (by simpa using e.symm))).trans K2.out
        obtain ⟨cK5, fK5⟩ := one_cell kb5
        have g6 := grown_setCell1 w5 w2.heap.size 0 (.slice (some ⟨g, 0, none⟩) (L.length - 1) cap)
        have z5 := g5.size
        have S6 : Hid (OSt ps v w r o w2.heap.size (.slice (some ⟨g, 0, none⟩) (L.length - 1) cap) (.slice (some ⟨g4, 0, none⟩) (Lo.length + 1) c4) (L.eraseIdx i) (Lo ++ [X]) f' (w5.setCell ⟨w2.heap.size, 0, none⟩ (.slice (some ⟨g, 0, none⟩) (L.length - 1) cap))) := by
          obtain ⟨hXm, hXi, hX0, hXv⟩ := HXX.out
          obtain ⟨hf, hor, hln⟩ := HF.out
          have hel : (L.eraseIdx i).length = L.length - 1 := List.length_eraseIdx_of_lt hi'
          -- a row that is not the box
          have nbox : ∀ {B e n} {u : Value} {xs : List Value}, w5.ownsRow B e 1 u n xs → e ≠ 52 → ∀ k, u.ownBlock = some k → (w5.setCell ⟨w2.heap.size, 0, none⟩ (.slice (some ⟨g, 0, none⟩) (L.length - 1) cap)).heap[k]? = w5.heap[k]? := fun {B e n u xs} ho hne k hk => by
            refine g6.block k (ho.lt k hk).2 (fun e2 => ?_)
            have e3 : k = w2.heap.size := by simpa using e2
            subst e3
            rcases ho.2 with ⟨e1, _⟩ | ⟨g', cap', cur, e1, _, hg', _⟩
            · rw [e1] at hk; cases hk
            · rw [e1] at hk
              have e4 : g' = w2.heap.size := by simpa [Value.ownBlock] using hk
              rw [e4, kb5] at hg'
              simp only [Option.some.injEq, Obj.cells.injEq] at hg'
              exact hne hg'.2.1.symm
          have go5 : GR w5 (w.heap.size + 1) (.slice (some ⟨g4, 0, none⟩) (Lo.length + 1) c4) (Lo ++ [X]) := K4.out.same (fun k hk => g5.block k (K4.out.row.lt k hk).2 (fun e => by
            have e1 : g4 = k := by simpa [Value.ownBlock] using hk
            have e2 : g = k := by simpa using e.symm
            exact k7 (e2.trans e1.symm))) (fun x hx k hk => g5.block k ((K4.out.each x hx).2.lt k hk).2 (fun e => row_kind (K4.out.each x hx).2 K3.out.row (by decide) hk (by simp at e; subst e; rfl)))
          refine ⟨?_, one_set kb5 _, HSA.out.kge, ?_, go5.same (fun k hk => nbox go5.row (by decide) k hk) (fun x hx k hk => nbox (go5.each x hx).2 (by decide) k hk), ?_, ?_, ?_, ?_, ?_, ?_, ?_⟩
          · refine (g6.block w.heap.size (by have := (Array.getElem?_eq_some_iff.1 K5.out).1; omega) (fun e => by simp at e; omega)).trans ((g5.block w.heap.size (Array.getElem?_eq_some_iff.1 K5.out).1 (fun e => by simp at e; omega)).trans K5.out)
          · have : GR w5 (w.heap.size + 1) (.slice (some ⟨g, 0, none⟩) (L.length - 1) cap) (L.eraseIdx i) := ⟨by rw [hel]; exact hR5.row, hR5.each, hR5.ap⟩
            exact this.same (fun k hk => nbox this.row (by decide) k hk) (fun x hx k hk => nbox (this.each x hx).2 (by decide) k hk)
          · intro x hx y hy k hk
            rcases List.mem_append.1 hy with hy | hy
            · exact HSA.out.ap x (List.mem_of_mem_eraseIdx hx) y hy k hk
            · obtain rfl : y = X := by simpa using hy
              obtain ⟨j, hj⟩ := List.getElem?_of_mem hx
              rw [List.getElem?_eraseIdx] at hj
              by_cases hji : j < i
              · rw [if_pos hji] at hj
                exact HSA.out.gl.ap j i x.1 y.1 k (by omega) (by rw [List.getElem?_map, hj]; rfl) (by rw [List.getElem?_map, hXi]; rfl) hk
              · rw [if_neg hji] at hj
                exact HSA.out.gl.ap (j + 1) i x.1 y.1 k (by omega) (by rw [List.getElem?_map, hj]; rfl) (by rw [List.getElem?_map, hXi]; rfl) hk
          · intro k hk e
            have e1 : g = k := by simpa [Value.ownBlock] using hk
            have e2 : g4 = k := by simpa [Value.ownBlock] using e
            exact k7 (e1.trans e2.symm)
          · rw [← HSA.out.sum, hor, List.map_append, map_erase]
            have : (L.map Prod.snd).getD i [] = X.2 := by
              rw [List.getD_eq_getElem?_getD, List.getElem?_map, hXi]; rfl
            rw [this]
            simp
          · rw [map_erase, hln, List.length_eraseIdx_of_lt (by simpa using hi'), hel]
            simp
          · rw [hel]; simp; omega
          · exact fun x hx => HSA.out.hds x (List.mem_of_mem_eraseIdx hx)
          · have := K6.out.grown g5 K6.out.size (fun k e => by cases e; omega)
            exact this.grown g6 this.size (fun k e => by cases e; omega)
        have HOV2 : Hid (lenOf u4 = Lo.length) := HOV.out
        clear HSA HXX HF HK4 K2 K3 K4 K5 K6 hR5 g5 kb5 g6
        go_wp2
        go_roundw
        case rel => exact ⟨_, _, _, f', by simp [lenOf], S6.out⟩
        case measure =>
          show 4 - (Lo.length + 1) < 4 - lenOf u4
          rw [HOV2.out]
          omega
      · have hL0 : L = [] := List.eq_nil_of_length_eq_zero (by omega)
        subst hL0
        obtain ⟨la, lc, hlv⟩ : ∃ a c, lv = .slice a 0 c := by
          obtain ⟨a, c, e, _⟩ := reads_own hS.gl.row
          exact ⟨a, c, by simpa using e⟩
        subst hlv
        have hsum := hS.sum
        have hln := hS.len
        have hnil : ordI r f (([] : List LV).map Prod.snd) = [] := List.eq_nil_of_length_eq_zero (by rw [hln]; rfl)
        rw [hnil, List.append_nil] at hsum
        have HSUM : Hid _ := hsum
        clear hS hsum hln hnil hov
        go_wp2
        go_ret
        refine ⟨u4, Lo.map Prod.fst, rfl, ?_, HS.out.go.ap, HS.out.below⟩
        rw [← HSUM.out]
        have e1 : (castLL (Lo.map Prod.snd)).length = Lo.length := by simp [castLL]
        refine OwnSS.mono (base := w.heap.size + 1) ⟨by rw [e1]; exact HS.out.go.row, fun j u xs hj hx => ?_⟩ (by omega)
        unfold castLL at hx
        rw [List.map_map, List.getElem?_map] at hx
        rw [List.getElem?_map] at hj
        obtain ⟨x, hx1, hx2⟩ := Option.map_eq_some_iff.1 hx
        rw [hx1] at hj
        obtain rfl : x.1 = u := by simpa using hj
        have := (HS.out.go.each x (List.mem_of_getElem? hx1)).2
        rw [← hx2]
        simpa [nats] using this

end Go.Proofs.Ytmloeldgeegddaa
