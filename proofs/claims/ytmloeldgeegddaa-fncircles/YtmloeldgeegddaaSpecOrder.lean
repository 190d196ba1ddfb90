/-
  spec.Order.
-/
import Derived.Test.YtmloeldgeegddaaG30CirclesBoth
import Derived.Test.YtmloeldgeegddaaOrderI
import Derived.Deep.RegionHeld3
import Derived.BigRegion
namespace Go.Proofs.Ytmloeldgeegddaa
open Go.RowKit
set_option linter.unusedVariables false
set_option maxHeartbeats 8000000
set_option maxRecDepth 20000

theorem all_noSelf {C : Nat → List Nat} {p : Nat → Bool} {k : Nat} (hk : p k = true) : (noSelf C k).all p = (C k).all p := by
  unfold noSelf
  induction C k with
  | nil => rfl
  | cons y l ih =>
    rw [List.filter_cons]
    cases hb : Nat.beq y k
    · simp only [Bool.not_false, if_true, List.all_cons, ih]
    · have e := Nat.eq_of_beq_eq_true hb
      subst e
      simp only [Bool.not_true, Bool.false_eq_true, if_false, List.all_cons, hk, Bool.true_and, ih]

theorem ready_noSelf (C : Nat → List Nat) (done g : List Nat) : ready (noSelf C) done g = ready C done g := by
  unfold ready
  rw [Bool.eq_iff_iff, List.all_eq_true, List.all_eq_true]
  constructor
  · intro h k hk
    rw [← all_noSelf (C := C) (p := fun y => hasN g y || hasN done y) (k := k) (by rw [hasN_mem.2 hk]; rfl)]
    exact h k hk
  · intro h k hk
    rw [all_noSelf (C := C) (p := fun y => hasN g y || hasN done y) (k := k) (by rw [hasN_mem.2 hk]; rfl)]
    exact h k hk

theorem ordS_noSelf (C : Nat → List Nat) : ∀ (f : Nat) (left : List (List Nat)) (done : List Nat), ordS (noSelf C) f left done = ordS C f left done
  | 0, _, _ => rfl
  | f + 1, left, done => by
    have e : ready (noSelf C) done = ready C done := funext (fun g => ready_noSelf C done g)
    show (bif Nat.blt (fidx (ready (noSelf C) done) left) left.length then left.getD (fidx (ready (noSelf C) done) left) [] :: ordS (noSelf C) f (left.eraseIdx (fidx (ready (noSelf C) done) left)) (done ++ left.getD (fidx (ready (noSelf C) done) left) []) else []) = (bif Nat.blt (fidx (ready C done) left) left.length then left.getD (fidx (ready C done) left) [] :: ordS C f (left.eraseIdx (fidx (ready C done) left)) (done ++ left.getD (fidx (ready C done) left) []) else [])
    rw [e, ordS_noSelf C f]

theorem ordS_next {C : Nat → List Nat} {f : Nat} {left : List (List Nat)} {done : List Nat} (hl : (ordS C f left done).length = left.length) (h0 : 0 < left.length) : ∃ f' i, f = f' + 1 ∧ i < left.length ∧ fidx (ready C done) left = i ∧ left.any (ready C done) = true ∧ ordS C f left done = left.getD i [] :: ordS C f' (left.eraseIdx i) (done ++ left.getD i []) ∧ (ordS C f' (left.eraseIdx i) (done ++ left.getD i [])).length = (left.eraseIdx i).length := by
  cases f with
  | zero =>
    have : (ordS C 0 left done).length = 0 := rfl
    omega
  | succ f =>
    cases hb : Nat.blt (fidx (ready C done) left) left.length
    · have e : ordS C (f + 1) left done = [] := by
        show (bif Nat.blt (fidx (ready C done) left) left.length then _ else _) = _
        rw [hb]; rfl
      rw [e] at hl
      simp at hl
      omega
    · have e : ordS C (f + 1) left done = left.getD (fidx (ready C done) left) [] :: ordS C f (left.eraseIdx (fidx (ready C done) left)) (done ++ left.getD (fidx (ready C done) left) []) := by
        show (bif Nat.blt (fidx (ready C done) left) left.length then _ else _) = _
        rw [hb]; rfl
      have hlt : fidx (ready C done) left < left.length := Nat.le_of_ble_eq_true hb
      refine ⟨f, _, rfl, hlt, rfl, ?_, e, ?_⟩
      · cases ha : left.any (ready C done) with
        | true => rfl
        | false => have := fidx_none ha; omega
      · rw [e] at hl
        simp only [List.length_cons] at hl
        rw [List.length_eraseIdx_of_lt hlt]
        omega

/-- The state of spec.Order. -/
structure SO (ps : List (List Stm)) (v : Value) (w : World) (o : List (List Nat)) (ov lv dv : Value) (uso usl : List Value) (Lo Ll : List (List Nat)) (D : List Nat) (f : Nat) (W : World) : Prop where
  box : W.heap[w.heap.size]? = some (.cells #[v] 26 (0, 0))
  out : OwnSS W (w.heap.size + 1) ov uso (castLL Lo)
  lft : OwnSS W (w.heap.size + 1) lv usl (castLL Ll)
  don : W.ownsRow (w.heap.size + 1) 2 1 dv D.length (nats D)
  ld : ∀ u ∈ usl, ∀ k, u.ownBlock = some k → dv.ownBlock ≠ some k
  od : ∀ u ∈ uso, ∀ k, u.ownBlock = some k → dv.ownBlock ≠ some k
  lo : ∀ k, lv.ownBlock = some k → ov.ownBlock ≠ some k
  sum : Lo ++ ordS (NC ps) f Ll D = o
  len : (ordS (NC ps) f Ll D).length = Ll.length
  tot : Ll.length + Lo.length ≤ 4
  flat : D.length + Ll.flatten.length ≤ 4
  each : ∀ g ∈ Ll, g ≠ [] ∧ ∀ x ∈ g, x < ps.length
  below : Below w.heap.size w W

theorem SO.kept {ps : List (List Stm)} {v : Value} {w : World} {o : List (List Nat)} {ov lv dv : Value} {uso usl : List Value} {Lo Ll : List (List Nat)} {D : List Nat} {f : Nat} {W W' : World} (h : SO ps v w o ov lv dv uso usl Lo Ll D f W) (hb : Below W.heap.size W W') : SO ps v w o ov lv dv uso usl Lo Ll D f W' :=
  ⟨(hb.block _ (Array.getElem?_eq_some_iff.1 h.box).1).trans h.box, h.out.below hb, h.lft.below hb, own_kept h.don hb, h.ld, h.od, h.lo, h.sum, h.len, h.tot, h.flat, h.each, h.below.trans (hb.mono h.below.size)⟩

theorem SO.group {ps : List (List Stm)} {v : Value} {w : World} {o : List (List Nat)} {ov dv : Value} {g cap : Nat} {uso usl : List Value} {Lo Ll : List (List Nat)} {D : List Nat} {f : Nat} {W : World} (h : SO ps v w o ov (.slice (some ⟨g, 0, none⟩) Ll.length cap) dv uso usl Lo Ll D f W) {k : Nat} (hk : k < Ll.length) :
    ∃ ga gc, W.cell? ⟨g, k, none⟩ = some (.slice (some ⟨ga, 0, none⟩) (Ll.getD k []).length gc) ∧ W.ownsRow (w.heap.size + 1) 2 1 (.slice (some ⟨ga, 0, none⟩) (Ll.getD k []).length gc) (Ll.getD k []).length (nats (Ll.getD k [])) ∧ Value.slice (some ⟨ga, 0, none⟩) (Ll.getD k []).length gc ∈ usl := by
  have e : (castLL Ll).length = Ll.length := by simp [castLL]
  have hl := h.lft
  rw [← e] at hl
  obtain ⟨u, hu, hc, ho⟩ := hl.at (j := k) (by omega)
  have e2 : (castLL Ll)[k]'(by omega) = (Ll.getD k []).map (fun x : Nat => (x : Int)) := by simp [castLL, List.getD, hk]
  rw [e2, List.length_map] at ho
  have hm : Ll.getD k [] ∈ Ll := mem_getD' hk
  have hne := (h.each _ hm).1
  have hpos : 0 < (Ll.getD k []).length := List.length_pos_iff.2 hne
  rcases own_shape ho with ⟨_, e3, _⟩ | ⟨ga, gc, e3, _⟩
  · omega
  · subst e3
    exact ⟨ga, gc, hc, ho, List.mem_of_getElem? hu⟩

theorem own_cap {w : World} {base : Nat} {e : TypeId} {g n cap : Nat} {xs : List Value} (h : w.ownsRow base e 1 (.slice (some ⟨g, 0, none⟩) n cap) n xs) : n ≤ cap := by
  rcases h.2 with ⟨e0, _⟩ | ⟨g', cap', cur, e0, _, _, h3, _⟩
  · cases e0
  · cases e0
    exact h3

theorem flat_erase : ∀ (xs : List (List Nat)) (i : Nat), i < xs.length → (xs.eraseIdx i).flatten.length + (xs.getD i []).length = xs.flatten.length
  | [], i, h => by simp at h
  | x :: xs, 0, _ => by simp; omega
  | x :: xs, i + 1, h => by
    have := flat_erase xs i (by simpa using h)
    simp only [List.eraseIdx_cons_succ, List.flatten_cons, List.length_append, List.getD_cons_succ]
    omega

/-- Behind one round. -/
theorem SO.next {ps : List (List Stm)} {v : Value} {w : World} {o : List (List Nat)} {u3 dv : Value} {g cap g5 c5 g6 c6 : Nat} {uso usl uso' : List Value} {Lo Ll : List (List Nat)} {D G : List Nat} {f f' i : Nat} {W w6 w9 : World} {lvN : Value} {n6 : Nat}
    (hS : SO ps v w o u3 (.slice (some ⟨g, 0, none⟩) Ll.length cap) dv uso usl Lo Ll D f W) (hi : i < Ll.length) (hG : Ll.getD i [] = G)
    (hF : f = f' + 1 ∧ ordS (NC ps) f Ll D = Ll.getD i [] :: ordS (NC ps) f' (Ll.eraseIdx i) (D ++ Ll.getD i []) ∧ (ordS (NC ps) f' (Ll.eraseIdx i) (D ++ Ll.getD i [])).length = (Ll.eraseIdx i).length)
    (r1 : OwnSS w6 (w.heap.size + 1) (.slice (some ⟨g5, 0, none⟩) (Lo.length + 1) c5) uso' (castLL (Lo ++ [G]))) (r2 : w6.ownsRow (w.heap.size + 1) 2 1 (.slice (some ⟨g6, 0, none⟩) n6 c6) (D ++ G).length (nats (D ++ G))) (r3 : OwnSS w6 (w.heap.size + 1) (.slice (some ⟨g, 0, none⟩) Ll.length cap) usl (castLL Ll)) (r4 : w6.heap[w.heap.size]? = some (.cells #[v] 26 (0, 0))) (r5 : Below w.heap.size w w6)
    (r7 : ∀ u ∈ usl, ∀ k, u.ownBlock = some k → g6 ≠ k) (r8 : ∀ u ∈ uso', ∀ k, u.ownBlock = some k → g6 ≠ k)
    (hr : w9.ownsRow w6.heap.size 30 1 lvN (Ll.length - 1) (usl.eraseIdx i)) (hb : Below w6.heap.size w6 w9) :
    SO ps v w o (.slice (some ⟨g5, 0, none⟩) (Lo.length + 1) c5) lvN (.slice (some ⟨g6, 0, none⟩) n6 c6) uso' (usl.eraseIdx i) (Lo ++ [G]) (Ll.eraseIdx i) (D ++ G) f' w9 := by
  have hz := (Array.getElem?_eq_some_iff.1 r4).1
  have hel : (Ll.eraseIdx i).length = Ll.length - 1 := List.length_eraseIdx_of_lt hi
  have hcl : (castLL (Ll.eraseIdx i)).length = Ll.length - 1 := by simp [castLL, hel]
  have hfe := flat_erase Ll i hi
  rw [hG] at hfe
  refine ⟨(hb.block _ hz).trans r4, r1.below hb, ⟨by rw [hcl]; exact own_mono hr (by omega), fun j u xs hj hx => ?_⟩, own_kept r2 hb, fun u hu k hk e => ?_, fun u hu k hk e => ?_, fun k hk e => ?_, ?_, ?_, ?_, ?_, ?_, r5.trans (hb.mono r5.size)⟩
  · have e1 : castLL (Ll.eraseIdx i) = (castLL Ll).eraseIdx i := map_erase _ _ _
    rw [e1, List.getElem?_eraseIdx] at hx
    rw [List.getElem?_eraseIdx] at hj
    by_cases hji : j < i
    · rw [if_pos hji] at hx hj
      exact own_kept (r3.each j u xs hj hx) hb
    · rw [if_neg hji] at hx hj
      exact own_kept (r3.each (j + 1) u xs hj hx) hb
  · have e1 : g6 = k := by simpa [Value.ownBlock] using e
    exact r7 u (List.mem_of_mem_eraseIdx hu) k hk e1
  · have e1 : g6 = k := by simpa [Value.ownBlock] using e
    exact r8 u hu k hk e1
  · have h1 := (hr.lt k hk).1
    have e1 : g5 = k := by simpa [Value.ownBlock] using e
    have h2 := (r1.row.lt g5 rfl).2
    omega
  · rw [← hS.sum, hF.2.1, hG]; simp
  · rw [← hG]; exact hF.2.2
  · have := hS.tot; rw [hel]; simp; omega
  · have := hS.flat; rw [List.length_append]; omega
  · exact fun x hx => hS.each x (List.mem_of_mem_eraseIdx hx)

theorem groups_in {ps : List (List Stm)} {r : Nat → Nat → Bool} {c o : List (List Nat)} (hG : Groups ps r c o) {g : List Nat} (hg : g ∈ c) : ∀ x ∈ g, x < ps.length := by
  have hg' : g ∈ (List.range ps.length).foldl (stepS ps.length r) [] := by
    have := hG.circ
    unfold circS at this
    rw [this]; exact hg
  obtain ⟨i, hi, rfl⟩ := foldS_mem ps.length r ps.length g hg'
  intro x hx
  exact List.mem_range.1 (List.mem_filter.1 hx).1

theorem specOrder (ps : List (List Stm)) (o : List (List Nat)) (ho : OrdA ps o) (v : Value) (w : World) (hl : ps.length ≤ maxLen) (hp : ∀ p ∈ ps, p.length ≤ maxLen) (hv : ReadsP w v ps) :
    Calls Try.prog 40 #[.agg #[v]] w fun e w' => ∃ u us, e = .returned u ∧ OwnSS w' w.heap.size u us (castLL o) ∧ Below w.heap.size w w' := by
  obtain ⟨i0, hi0, hz0, hz1, hz2⟩ := info_parts infoInt
  obtain ⟨i1, hjS, hy0, hy1, hy2⟩ := info_parts infoSlice
  have hb0 : Below w.heap.size w ((w.alloc (.cells #[v] 26)).alloc (.cells #[] 30)) := by go_grown
  have z0 : (w.alloc (.cells #[v] 26)).heap.size = w.heap.size + 1 := by simp
  have zz0 : ((w.alloc (.cells #[v] 26)).alloc (.cells #[] 30)).heap.size = w.heap.size + 2 := by simp
  have m0 := made0S (w.alloc (.cells #[v] 26))
  rw [z0] at m0
  have H0 : ((w.alloc (.cells #[v] 26)).alloc (.cells #[] 30)).heap[w.heap.size]? = some (.cells #[v] 26 (0, 0)) := (old_block (by omega)).trans (heap_alloc_new w _)
  have he := specProgramOk ps v _ hl hp (readsP_below hv hb0)
  cases hok : programOk ps
  · rw [hok] at he
    obtain rfl := ho.2 hok
    go_enter Try.func40, Try.ntmps40
    go_wp2_with (go_at_call 13; refine he.mono ?_; rintro e w2 ⟨rfl, b2⟩)
    go_ret
    have L2 := hb0.trans (b2.mono hb0.size)
    exact ⟨_, _, rfl, (m0.below b2).mono (by omega), L2⟩
  · rw [hok] at he
    obtain ⟨r, c, hG⟩ := ho.1 hok
    obtain ⟨h4, h1, hpr⟩ := programOk_len hok
    have hc4 : c.length ≤ 4 := by
      have := foldS_len ps.length r ps.length
      have e2 : (circS ps.length r).length ≤ ps.length := this
      rw [hG.circ] at e2
      omega
    have HM0 : Hid _ := m0
    go_enter Try.func40, Try.ntmps40
    go_wp2_with fail
    go_at_call 13
    refine he.mono ?_
    rintro e w2 ⟨rfl, b2⟩
    clear he m0
    have X2 := (b2.block _ (by omega)).trans H0
    obtain ⟨c2, f2⟩ := one_cell X2
    have L2 := hb0.trans (b2.mono hb0.size)
    have s2 := b2.size
    have hci := l9Circles ps r c o hok hG v w2 (readsP_below hv L2)
    go_wp2_with fail
    go_at_call 89
    refine hci.mono ?_
    rintro e w3 ⟨u, us, rfl, hO, b3⟩
    clear hci
    have s3 := b3.size
    have BA : Below w3.heap.size w3 (w3.alloc (.cells #[] 2)) := by go_grown
    have S0 : SO ps v w o (.slice (some ⟨w.heap.size + 1, 0, none⟩) 0 0) u (.slice (some ⟨w3.heap.size, 0, none⟩) 0 0) [] us [] c [] 4 (w3.alloc (.cells #[] 2)) := by
      have hOA := (hO.mono (by omega : w.heap.size + 1 ≤ w2.heap.size)).below BA
      refine ⟨(BA.block _ (by omega)).trans ((b3.block _ (by omega)).trans X2), ((HM0.out.below b2).below b3).below BA, hOA, own_mono (made0 w3) (by omega), fun x hx k hk e => ?_, by simp, fun k hk e => ?_, ?_, ?_, by simp; omega, by rw [hG.asked.cn]; simp; omega, fun g hg => ⟨(groups_each hG hg).1, groups_in hG hg⟩, (L2.trans (b3.mono L2.size)).trans (BA.mono (L2.trans (b3.mono L2.size)).size)⟩
      · have h1 := (hO.ltI hx hk).2
        have e1 : w3.heap.size = k := by simpa [Value.ownBlock] using e
        omega
      · have h1 := (hO.row.lt k hk).1
        have e1 : w.heap.size + 1 = k := by simpa [Value.ownBlock] using e
        omega
      · have := hG.asked.ordS
        unfold NS at this
        rw [ordS_noSelf] at this
        simpa using this
      · have := hG.asked.ordS
        unfold NS at this
        rw [ordS_noSelf] at this
        rw [this]; exact hG.asked.len
    have HS0 : Hid _ := S0
    have hu : ∃ a cp, u = .slice a c.length cp := by
      obtain ⟨a, cp, e, _⟩ := reads_own hO.row
      have := hO.len
      exact ⟨a, cp, by rw [e, this]; simp [castLL]⟩
    obtain ⟨ua, uc, rfl⟩ := hu
    clear S0 BA hO X2 c2 f2
    go_wp2
    go_loopw [3, 4, 5] (fun ov lv dv wr => ∃ (uso usl : List Value) (Lo Ll : List (List Nat)) (D : List Nat) (f : Nat), lenOf ov = Lo.length ∧ SO ps v w o ov lv dv uso usl Lo Ll D f wr) (fun ov _ _ _ => 4 - lenOf ov)
    case atStart => exact ⟨[], us, [], c, [], 4, rfl, HS0.out⟩
    case round =>
      obtain ⟨uso, usl, Lo, Ll, D, f, hov, hS⟩ := hrel
      clear HS0
      have HS : Hid (SO ps v w o u3 u4 u5 uso usl Lo Ll D f wr) := hS
      have HOV : Hid _ := hov
      obtain ⟨wz, hwz⟩ : ∃ x, x = wr := ⟨_, rfl⟩
      subst hwz
      have htot := hS.tot
      have hlu : usl.length = Ll.length := by have := hS.lft.len; simpa [castLL] using this
      by_cases h0 : 0 < Ll.length
      · obtain ⟨f', i, hf, hi, hfi, hany, hor, hlen'⟩ := ordS_next hS.len h0
        obtain ⟨g, cap, hlv⟩ : ∃ g cap, u4 = .slice (some ⟨g, 0, none⟩) Ll.length cap := by
          rcases own_shape hS.lft.row with ⟨_, e, _⟩ | ⟨g, cp, e, _⟩
          · rw [show (castLL Ll).length = Ll.length by simp [castLL]] at e; omega
          · exact ⟨g, cp, by rw [e]; simp [castLL]⟩
        subst hlv
        obtain ⟨da, dc, hdv⟩ : ∃ a cp, u5 = .slice a D.length cp := by
          obtain ⟨a, cp, e, _⟩ := reads_own hS.don
          exact ⟨a, cp, by rw [e, nats_length]⟩
        have HF : Hid (f = f' + 1 ∧ ordS (NC ps) f Ll D = Ll.getD i [] :: ordS (NC ps) f' (Ll.eraseIdx i) (D ++ Ll.getD i []) ∧ (ordS (NC ps) f' (Ll.eraseIdx i) (D ++ Ll.getD i [])).length = (Ll.eraseIdx i).length) := ⟨hf, hor, hlen'⟩
        have HFI : Hid (fidx (ready (NC ps) D) Ll = i ∧ Ll.any (ready (NC ps) D) = true) := ⟨hfi, hany⟩
        have h0' : (0 : Int) < (Ll.length : Int) := by omega
        have hN4 : (Ll.length : Int) ≤ 4 := by omega
        subst hdv
        clear hS hf hor hlen' hfi hany hov hlu
        go_wp2
        go_loopw [6, 7] (fun av iv wr => ∃ k : Nat, k ≤ Ll.length ∧ iv = .int .i64 k ∧ Below wz.heap.size wz wr ∧ ((av = .int .i64 (-1) ∧ (Ll.take k).any (ready (NC ps) D) = false) ∨ av = .int .i64 (i : Int))) (fun _ iv _ => Ll.length - (intOf iv).toNat)
        case atStart => exact ⟨0, Nat.zero_le _, rfl, Below.refl _ _, .inl ⟨rfl, by simp⟩⟩
        case round =>
          obtain ⟨k, hk, rfl, hB, hav⟩ := hrel
          rcases hav with ⟨rfl, hno⟩ | rfl
          · by_cases hlk : k < Ll.length
            · have hlk' : (k : Int) < (Ll.length : Int) := by omega
              obtain ⟨wy, hwy⟩ : ∃ x, x = wr := ⟨_, rfl⟩
              subst hwy
              have HNO : Hid _ := hno
              have HB : Hid (Below wz.heap.size wz wy) := hB
              clear hno hB
              obtain ⟨ga, gc, cg, og, gm⟩ := HS.out.group hlk
              have hgm : Ll.getD k [] ∈ Ll := mem_getD' hlk
              obtain ⟨hgne, hgin⟩ := HS.out.each _ hgm
              have hgfl := mem_flat_len hgm
              have hfl := HS.out.flat
              obtain ⟨G, hGG⟩ : ∃ G, Ll.getD k [] = G := ⟨_, rfl⟩
              rw [hGG] at cg og hgin hgfl
              have HGG : Hid _ := hGG
              have HGI : Hid _ := hgin
              have HOG : Hid (wz.ownsRow (w.heap.size + 1) 2 1 (.slice (some ⟨ga, 0, none⟩) G.length gc) G.length (nats G)) := og
              have hG4 : (G.length : Int) ≤ 4 := by omega
              have zg := World.block_lt_of_cell? wz _ cg
              have zga := (og.lt ga rfl).2
              have HCG : Hid (wz.cell? ⟨g, k, none⟩ = some (.slice (some ⟨ga, 0, none⟩) G.length gc)) := cg
              obtain ⟨cx0, _⟩ := one_cell HS.out.box
              have zx := (Array.getElem?_eq_some_iff.1 HS.out.box).1
              have HCX : Hid (wz.cell? ⟨w.heap.size, 0, none⟩ = some v) := cx0
              clear cg og hGG hgin hgm gm cx0
              go_wp2_with fail
              go_loopw [8, 9] (fun rv mv wr => ∃ m : Nat, m ≤ G.length ∧ mv = .int .i64 m ∧ rv = .bool ((G.take m).all (fun x => (NC ps x).all (fun y => hasN G y || hasN D y))) ∧ Below wz.heap.size wz wr) (fun _ mv _ => G.length - (intOf mv).toNat)
              case atStart => exact ⟨0, Nat.zero_le _, rfl, by simp, HB.out⟩
              case round =>
                obtain ⟨m, hm, rfl, rfl, hBm⟩ := hrel
                obtain ⟨wx, hwx⟩ : ∃ x, x = wr := ⟨_, rfl⟩
                subst hwx
                have HBM : Hid (Below wz.heap.size wz wx) := hBm
                have cg := (hBm.cell (p := ⟨g, k, none⟩) zg).trans HCG.out
                by_cases hlm : m < G.length
                · have hlm' : (m : Int) < (G.length : Int) := by omega
                  have hxm : G.getD m 0 ∈ G := mem_getD' hlm
                  have hxl := HGI.out _ hxm
                  have ogx := own_kept HOG.out hBm
                  have ca := ogx.cellAt m (by omega)
                  rw [nats_get hlm] at ca
                  have cb := (hBm.cell (p := ⟨w.heap.size, 0, none⟩) zx).trans HCX.out
                  have zBm := hBm.size
                  have LW : Below w.heap.size w wx := HS.out.below.trans (hBm.mono HS.out.below.size)
                  have hcl : ∀ W, Below wx.heap.size wx W → _ := fun W hW => l3Calls ps (G.getD m 0) v W hxl (by unfold maxLen; omega) (procOk_len (hpr ps[G.getD m 0] (List.getElem_mem hxl)).1) (readsP_below (readsP_below hv LW) hW)
                  rw [← callG_eq hok hxl, callG_NC hok, List.length_map] at hcl
                  have hsn : (G.take (m + 1)).all (fun x => (NC ps x).all (fun y => hasN G y || hasN D y)) = ((G.take m).all (fun x => (NC ps x).all (fun y => hasN G y || hasN D y)) && (NC ps (G.getD m 0)).all (fun y => hasN G y || hasN D y)) := by
                    rw [List.take_succ_eq_append_getElem hlm, List.all_append]
                    simp [List.getD, hlm]
                  have HSN : Hid _ := hsn
                  have hR4 : (NC ps (G.getD m 0)).length ≤ 4 := by
                    have := (graph_of hok).len (G.getD m 0)
                    rw [callG_NC hok, List.length_map] at this
                    exact this
                  obtain ⟨rd, hrd⟩ : ∃ rd, (G.take m).all (fun x => (NC ps x).all (fun y => hasN G y || hasN D y)) = rd := ⟨_, rfl⟩
                  rw [hrd] at HSN ⊢
                  obtain ⟨x, hx⟩ : ∃ x, G.getD m 0 = x := ⟨_, rfl⟩
                  rw [hx] at ca hcl HSN hR4 hxl
                  have zg' : g < wx.heap.size := Nat.lt_of_lt_of_le zg zBm
                  have zga' : ga < wx.heap.size := by omega
                  have zx' : w.heap.size < wx.heap.size := by omega
                  clear hsn hrd hx hxm hBm ogx
                  go_wp2_with fail
                  go_region_held3 (fun w' => w'.cell? ⟨w.heap.size, 0, none⟩ = some v ∧ w'.cell? ⟨g, k, none⟩ = some (.slice (some ⟨ga, 0, none⟩) G.length gc) ∧ w'.cell? ⟨ga, m, none⟩ = some (.int .i64 (x : Int))) (first | exact ⟨cb, cg, ca⟩ | exact ⟨(hc4 _ _ zx').trans cb, (hc4 _ _ zg').trans cg, (hc4 _ _ zga').trans ca⟩) (first
                    | (go_at_call 55; refine (hcl _ (by go_grown)).mono ?_; rintro e w4 ⟨g4, c4, rfl, o4, b4⟩; have M4 : Below wx.heap.size wx w4 := Below.trans (by go_grown) b4; obtain ⟨hc4, hf4⟩ := bcell M4))
                  have o4 : w4.ownsRow wx.heap.size 2 1 (.slice (some ⟨g4, 0, none⟩) (NC ps x).length c4) (NC ps x).length (nats (NC ps x)) := o4
                  have HO4 : Hid (w4.ownsRow wx.heap.size 2 1 (.slice (some ⟨g4, 0, none⟩) (NC ps x).length c4) (NC ps x).length (nats (NC ps x))) := o4
                  have B4 : Hid (Below wz.heap.size wz w4) := HBM.out.trans (M4.mono zBm)
                  obtain ⟨R, hRR⟩ : ∃ R, NC ps x = R := ⟨_, rfl⟩
                  rw [hRR] at HO4 HSN hR4 ⊢
                  have hR4' : (R.length : Int) ≤ 4 := by omega
                  have z4 := M4.size
                  clear hRR o4 b4 M4 hc4 hf4 cg ca cb hcl
                  go_wp2
                  go_loopw [8, 11] (fun rv jv wr => ∃ j : Nat, j ≤ R.length ∧ jv = .int .i64 j ∧ rv = .bool (rd && (R.take j).all (fun y => hasN G y || hasN D y)) ∧ Below w4.heap.size w4 wr) (fun _ jv _ => R.length - (intOf jv).toNat)
                  case atStart => exact ⟨0, Nat.zero_le _, rfl, by simp, Below.refl _ _⟩
                  case round =>
                    obtain ⟨j, hj, rfl, rfl, hBj⟩ := hrel
                    have HBJ : Hid (Below w4.heap.size w4 wr) := hBj
                    have BZ : Below wz.heap.size wz wr := B4.out.trans (hBj.mono B4.out.size)
                    by_cases hlj : j < R.length
                    · have hlj' : (j : Int) < (R.length : Int) := by omega
                      have cy := (own_kept HO4.out hBj).cellAt j (by omega)
                      rw [nats_get hlj] at cy
                      have cg := (BZ.cell (p := ⟨g, k, none⟩) zg).trans HCG.out
                      have oG := own_kept HOG.out BZ
                      have oD := own_kept HS.out.don BZ
                      have hsj : (R.take (j + 1)).all (fun y => hasN G y || hasN D y) = ((R.take j).all (fun y => hasN G y || hasN D y) && (hasN G (R.getD j 0) || hasN D (R.getD j 0))) := by
                        rw [List.take_succ_eq_append_getElem hlj, List.all_append]
                        simp [List.getD, hlj]
                      obtain ⟨y, hy⟩ : ∃ y, R.getD j 0 = y := ⟨_, rfl⟩
                      rw [hy] at cy hsj
                      have hh1 : ∀ d os, _ := fun d os => Calls.regrown_of (w := wr) (d := d) (os := os) (l1Has (G.map (fun x : Nat => (x : Int))) (y : Int) (.slice (some ⟨ga, 0, none⟩) G.length gc) _ (by rw [List.length_map]; unfold maxLen; omega) (reads_below (reads_own oG) (below_regrown wr d os)))
                      have hh2 : ∀ d os, _ := fun d os => Calls.regrown_of (w := wr) (d := d) (os := os) (l1Has (D.map (fun x : Nat => (x : Int))) (y : Int) (.slice da D.length dc) _ (by rw [List.length_map]; unfold maxLen; omega) (reads_below (reads_own oD) (below_regrown wr d os)))
                      have eG := hasI_hasN G y
                      have eD := hasI_hasN D y
                      unfold hasI at eG eD
                      rw [eG] at hh1
                      rw [eD] at hh2
                      obtain ⟨q, hq⟩ : ∃ q, (rd && (R.take j).all (fun y => hasN G y || hasN D y)) = q := ⟨_, rfl⟩
                      have hnew : (rd && (R.take (j + 1)).all (fun y => hasN G y || hasN D y)) = (q && (hasN G y || hasN D y)) := by rw [hsj, ← hq, Bool.and_assoc]
                      have HNEW : Hid _ := hnew
                      rw [hq]
                      obtain ⟨b1, hb1⟩ : ∃ b1, hasN G y = b1 := ⟨_, rfl⟩
                      obtain ⟨b2, hb2⟩ : ∃ b2, hasN D y = b2 := ⟨_, rfl⟩
                      rw [hb1] at hh1 HNEW
                      rw [hb2] at hh2 HNEW
                      have cy := cell_regrown cy
                      have cg := cell_regrown cg
                      clear hsj hy eG eD hq hnew hb1 hb2 oG oD hBj
                      cases q with
                      | false =>
                        go_wp2
                        refine wp_region_quiet_below (by kernel_rfl) (by kernel_rfl) ?_
                        repeat (go_big_quiet_step (first | with_reducible exact hh1 _ _ | with_reducible exact hh2 _ _))
                        refine wpQuiet_nil ?_
                        intro _ hw'
                        obtain ⟨⟨dq, osq⟩, hw''⟩ := hw'
                        subst hw''
                        have BW := below_regrown wr dq osq
                        go_wp2
                        go_roundw
                        case rel => exact ⟨j + 1, by omega, by go_num, by rw [HNEW.out]; rfl, HBJ.out.trans (BW.mono HBJ.out.size)⟩
                        case measure => simp [intOf]; omega
                      | true =>
                        cases b1 with
                        | true =>
                          go_wp2
                          refine wp_region_quiet_below (by kernel_rfl) (by kernel_rfl) ?_
                          repeat (go_big_quiet_step (first | with_reducible exact hh1 _ _ | with_reducible exact hh2 _ _))
                          refine wpQuiet_nil ?_
                          intro _ hw'
                          obtain ⟨⟨dq, osq⟩, hw''⟩ := hw'
                          subst hw''
                          have BW := below_regrown wr dq osq
                          go_wp2
                          go_roundw
                          case rel => exact ⟨j + 1, by omega, by go_num, by rw [HNEW.out]; rfl, HBJ.out.trans (BW.mono HBJ.out.size)⟩
                          case measure => simp [intOf]; omega
                        | false =>
                          cases b2 with
                          | true =>
                            go_wp2
                            refine wp_region_quiet_below (by kernel_rfl) (by kernel_rfl) ?_
                            repeat (go_big_quiet_step (first | with_reducible exact hh1 _ _ | with_reducible exact hh2 _ _))
                            refine wpQuiet_nil ?_
                            intro _ hw'
                            obtain ⟨⟨dq, osq⟩, hw''⟩ := hw'
                            subst hw''
                            have BW := below_regrown wr dq osq
                            go_wp2
                            go_roundw
                            case rel => exact ⟨j + 1, by omega, by go_num, by rw [HNEW.out]; rfl, HBJ.out.trans (BW.mono HBJ.out.size)⟩
                            case measure => simp [intOf]; omega
                          | false =>
                            go_wp2
                            refine wp_region_quiet_below (by kernel_rfl) (by kernel_rfl) ?_
                            repeat (go_big_quiet_step (first | with_reducible exact hh1 _ _ | with_reducible exact hh2 _ _))
                            refine wpQuiet_nil ?_
                            intro _ hw'
                            obtain ⟨⟨dq, osq⟩, hw''⟩ := hw'
                            subst hw''
                            have BW := below_regrown wr dq osq
                            go_wp2
                            go_roundw
                            case rel => exact ⟨j + 1, by omega, by go_num, by rw [HNEW.out]; rfl, HBJ.out.trans (BW.mono HBJ.out.size)⟩
                            case measure => simp [intOf]; omega
                    · obtain rfl : j = R.length := by omega
                      have hge : ¬ (R.length : Int) < (R.length : Int) := by omega
                      have HE : Hid ((rd && (R.take R.length).all (fun y => hasN G y || hasN D y)) = (G.take (m + 1)).all (fun x => (NC ps x).all (fun y => hasN G y || hasN D y))) := by
                        show (rd && (R.take R.length).all (fun y => hasN G y || hasN D y)) = _
                        rw [List.take_length, HSN.out]
                      obtain ⟨q, hq⟩ : ∃ q, (rd && (R.take R.length).all (fun y => hasN G y || hasN D y)) = q := ⟨_, rfl⟩
                      rw [hq] at HE ⊢
                      clear hq
                      go_wp2
                      go_roundw
                      case rel => exact ⟨m + 1, by omega, by go_num, by rw [HE.out], BZ⟩
                      case measure => simp [intOf]; omega
                · obtain rfl : m = G.length := by omega
                  have hge : ¬ (G.length : Int) < (G.length : Int) := by omega
                  have hrdy : (G.take G.length).all (fun x => (NC ps x).all (fun y => hasN G y || hasN D y)) = ready (NC ps) D G := by rw [List.take_length]; rfl
                  have hget : Ll[k]? = some G := by rw [getD_some' (d := []) hlk, HGG.out]
                  have hsn : (Ll.take (k + 1)).any (ready (NC ps) D) = ready (NC ps) D G := by
                    rw [List.take_succ_eq_append_getElem hlk, List.any_append, HNO.out]
                    have : Ll[k] = G := by rw [List.getElem?_eq_getElem hlk] at hget; simpa using hget
                    simp [this]
                  have hfd : ready (NC ps) D G = true → k = i := fun h => by rw [← HFI.out.1]; exact (fidx_take HNO.out hget h).symm
                  have HSN : Hid _ := hsn
                  have HFD : Hid _ := hfd
                  rw [hrdy]
                  obtain ⟨q, hq⟩ : ∃ q, ready (NC ps) D G = q := ⟨_, rfl⟩
                  rw [hq] at HSN HFD ⊢
                  clear hrdy hget hsn hfd hq
                  cases q with
                  | true =>
                    have HKI : Hid (k = i) := HFD.out rfl
                    go_wp2
                    go_roundw
                    case rel => exact ⟨k + 1, by omega, by go_num, HBM.out, .inr (by rw [HKI.out])⟩
                    case measure => simp [intOf]; omega
                  | false =>
                    go_wp2
                    go_roundw
                    case rel => exact ⟨k + 1, by omega, by go_num, HBM.out, .inl ⟨rfl, HSN.out⟩⟩
                    case measure => simp [intOf]; omega
            · exfalso
              obtain rfl : k = Ll.length := by omega
              rw [List.take_length, HFI.out.2] at hno
              cases hno
          · have hneg : ¬ (i : Int) < 0 := by omega
            have SR := HS.out.kept hB
            obtain ⟨ga, gc, cg, og, gm⟩ := SR.group hi
            have hgm : Ll.getD i [] ∈ Ll := mem_getD' hi
            obtain ⟨hgne, hgin⟩ := SR.each _ hgm
            have hgfl := mem_flat_len hgm
            have hfl := SR.flat
            obtain ⟨G, hGG⟩ : ∃ G, Ll.getD i [] = G := ⟨_, rfl⟩
            rw [hGG] at cg og hgin hgfl hgne gm
            have HGG : Hid _ := hGG
            have hG1 : 1 ≤ G.length := List.length_pos_iff.2 hgne
            have hG4 : G.length ≤ 4 := by omega
            have hiN : (i : Int) < (Ll.length : Int) := by omega
            have HSR : Hid (SO ps v w o u3 (.slice (some ⟨g, 0, none⟩) Ll.length cap) (.slice da D.length dc) uso usl Lo Ll D f wr) := SR
            have zw := (Array.getElem?_eq_some_iff.1 SR.box).1
            have zg := World.block_lt_of_cell? wr _ cg
            have zg : g < wr.heap.size := zg
            have zga := og.lt ga rfl
            have HGM : Hid (Value.slice (some ⟨ga, 0, none⟩) G.length gc ∈ usl) := gm
            have ba0 : Below wr.heap.size wr (wr.alloc (.cells #[] 2)) := by go_grown
            have cg1 := (ba0.cell (p := ⟨g, i, none⟩) zg).trans cg
            have HBA0 : Hid _ := ba0
            have HSRC : Hid (∀ W : World, (∀ q, W.cell? ⟨ga, q, none⟩ = wr.cell? ⟨ga, q, none⟩) → ∀ (j : Nat) (u : Value), (nats G)[j]? = some u → W.cell? ((⟨ga, 0, none⟩ : Addr).add j) = some u) := fun W hW j u hj => by
              have h1 := og.cells rfl j u hj
              have e2 : (⟨ga, 0, none⟩ : Addr).add j = ⟨ga, j, none⟩ := by unfold Addr.add; split <;> simp_all
              rw [e2] at h1 ⊢
              rw [hW j]; exact h1
            have HM0 : Hid ((wr.alloc (.cells #[] 2)).ownsRow wr.heap.size 2 1 (.slice (some ⟨wr.heap.size, 0, none⟩) 0 0) 0 []) := made0 wr
            have H1C : Hid (∀ y ∈ nats G, y.oneCell' = true) := ints_oneCell _
            have HNL : Hid ((nats G).length = G.length * 1) := by
              show (nats G).length = G.length * 1
              rw [nats_length]; omega
            have HOL : Hid (lenOf u3 = Lo.length) := HOV.out
            -- behind the copy of the group
            have HK4 : Hid (∀ (g1 c1 : Nat) (w4 : World), w4.ownsRow wr.heap.size 2 1 (.slice (some ⟨g1, 0, none⟩) (0 + G.length) c1) (0 + G.length) ([] ++ nats G) → (wr.alloc (.cells #[] 2)).grownBy w4 (some wr.heap.size) →
                Below wr.heap.size wr w4 ∧ (w4.alloc (.cells #[.slice (some ⟨g1, 0, none⟩) G.length c1] 30)).ownsRow (w.heap.size + 1) 30 1 u3 Lo.length uso ∧ w4.ownsRow wr.heap.size 2 1 (.slice (some ⟨g1, 0, none⟩) G.length c1) G.length (nats G)) := by
              intro g1 c1 w4 o4 gr4
              rw [Nat.zero_add] at o4
              have b4 : Below wr.heap.size wr w4 := ba0.grown gr4 ba0.size (fun k e => by cases e; exact Nat.le_refl _)
              refine ⟨b4, ?_, o4⟩
              have := (SR.kept b4).out.row
              rw [show (castLL Lo).length = Lo.length by simp [castLL]] at this
              exact this.alloc _
            -- behind the append to out
            have HK5 : Hid (∀ (g1 c1 : Nat) (w4 : World), Below wr.heap.size wr w4 → w4.ownsRow wr.heap.size 2 1 (.slice (some ⟨g1, 0, none⟩) G.length c1) G.length (nats G) → ∀ (g5 c5 : Nat) (w5 : World), w5.ownsRow (w.heap.size + 1) 30 1 (.slice (some ⟨g5, 0, none⟩) (Lo.length + 1) c5) (Lo.length + 1) (uso ++ [Value.slice (some ⟨g1, 0, none⟩) G.length c1]) → (w4.alloc (.cells #[.slice (some ⟨g1, 0, none⟩) G.length c1] 30)).grownBy w5 u3.ownBlock → (u3.ownBlock = some g5 ∨ g5 = (w4.alloc (.cells #[.slice (some ⟨g1, 0, none⟩) G.length c1] 30)).heap.size) →
                w5.cell? ⟨g, i, none⟩ = some (.slice (some ⟨ga, 0, none⟩) G.length gc) ∧ (∀ q, w5.cell? ⟨ga, q, none⟩ = wr.cell? ⟨ga, q, none⟩) ∧ OwnSS w5 (w.heap.size + 1) (.slice (some ⟨g5, 0, none⟩) (Lo.length + 1) c5) (uso ++ [Value.slice (some ⟨g1, 0, none⟩) G.length c1]) (castLL (Lo ++ [G])) ∧ w5.ownsRow (w.heap.size + 1) 2 1 (.slice da D.length dc) D.length (nats D) ∧ OwnSS w5 (w.heap.size + 1) (.slice (some ⟨g, 0, none⟩) Ll.length cap) usl (castLL Ll) ∧ w5.heap[w.heap.size]? = some (.cells #[v] 26 (0, 0)) ∧ Below w.heap.size w w5 ∧ wr.heap.size ≤ w5.heap.size ∧ wr.heap.size ≤ g1 ∧ g1 < w5.heap.size ∧ g ≠ g5) := by
              intro g1 c1 w4 b4 o4 g5 c5 w5 o5 gr5 pl5
              have hg1 := o4.lt g1 rfl
              have bA : Below w4.heap.size w4 (w4.alloc (.cells #[.slice (some ⟨g1, 0, none⟩) G.length c1] 30)) := by go_grown
              have bA2 : Below wr.heap.size wr (w4.alloc (.cells #[.slice (some ⟨g1, 0, none⟩) G.length c1] 30)) := b4.trans (bA.mono b4.size)
              have SA := SR.kept bA2
              have zA := bA.size
              have zA2 := bA2.size
              have z5 := gr5.size
              have hrow := SA.out.row
              have kp : ∀ {B n} {u : Value} {xs : List Value}, (w4.alloc (.cells #[.slice (some ⟨g1, 0, none⟩) G.length c1] 30)).ownsRow B 2 1 u n xs → w5.ownsRow B 2 1 u n xs := fun {B n u xs} ho => own_same ho (fun k hk => gr5.block k (ho.lt k hk).2 (fun e => row_kind ho hrow (by decide) hk e.symm))
              have hgl := SA.lft.row.lt g rfl
              have l5 : OwnSS w5 (w.heap.size + 1) (.slice (some ⟨g, 0, none⟩) Ll.length cap) usl (castLL Ll) := SA.lft.same (fun k hk => gr5.block k (SA.lft.row.lt k hk).2 (fun e => SA.lo k hk e.symm)) (fun u hu k hk => by
                obtain ⟨xs, _, ho⟩ := SA.lft.inner hu
                exact gr5.block k (ho.lt k hk).2 (fun e => row_kind ho hrow (by decide) hk e.symm))
              have hgablk : w5.heap[ga]? = wr.heap[ga]? := (gr5.block ga (by omega) (fun e => row_kind (own_kept og bA2) hrow (by decide) rfl e.symm)).trans (bA2.block ga zga.2)
              have hgblk : w5.heap[g]? = wr.heap[g]? := (gr5.block g (by omega) (fun e => SA.lo g rfl e.symm)).trans (bA2.block g zg)
              refine ⟨(World.cell?_of_block (a := ⟨g, i, none⟩) hgblk).trans cg, fun q => World.cell?_of_block (a := ⟨ga, q, none⟩) hgablk, ?_, kp SA.don, l5, ?_, SA.below.grown gr5 SA.below.size (fun k e => by have := (hrow.lt k e).1; omega), by omega, hg1.1, by omega, ?_⟩
              · have e1 : castLL (Lo ++ [G]) = castLL Lo ++ [G.map (fun x : Nat => (x : Int))] := by simp [castLL]
                rw [e1]
                refine SA.out.appended ?_ (by simpa [castLL] using o5) gr5
                rw [List.length_map]
                exact own_kept (own_mono o4 (by omega)) bA
              · exact (gr5.block w.heap.size (Array.getElem?_eq_some_iff.1 SA.box).1 (fun e => by have := (hrow.lt _ e.symm).1; omega)).trans SA.box
              · intro e
                subst e
                rcases pl5 with h | h
                · exact SA.lo g rfl h
                · omega
            -- behind the append to done
            have HK6 : Hid (∀ (g1 c1 g5 c5 : Nat) (w5 : World), OwnSS w5 (w.heap.size + 1) (.slice (some ⟨g5, 0, none⟩) (Lo.length + 1) c5) (uso ++ [Value.slice (some ⟨g1, 0, none⟩) G.length c1]) (castLL (Lo ++ [G])) → w5.ownsRow (w.heap.size + 1) 2 1 (.slice da D.length dc) D.length (nats D) → OwnSS w5 (w.heap.size + 1) (.slice (some ⟨g, 0, none⟩) Ll.length cap) usl (castLL Ll) → w5.heap[w.heap.size]? = some (.cells #[v] 26 (0, 0)) → Below w.heap.size w w5 → wr.heap.size ≤ w5.heap.size → wr.heap.size ≤ g1 → g1 < w5.heap.size →
                ∀ (g6 c6 : Nat) (w6 : World), w6.ownsRow (w.heap.size + 1) 2 1 (.slice (some ⟨g6, 0, none⟩) (D.length + G.length) c6) (D.length + G.length) (nats D ++ nats G) → w5.grownBy w6 (Value.slice da D.length dc).ownBlock → ((Value.slice da D.length dc).ownBlock = some g6 ∨ g6 = w5.heap.size) →
                OwnSS w6 (w.heap.size + 1) (.slice (some ⟨g5, 0, none⟩) (Lo.length + 1) c5) (uso ++ [Value.slice (some ⟨g1, 0, none⟩) G.length c1]) (castLL (Lo ++ [G])) ∧ w6.ownsRow (w.heap.size + 1) 2 1 (.slice (some ⟨g6, 0, none⟩) (D.length + G.length) c6) (D ++ G).length (nats (D ++ G)) ∧ OwnSS w6 (w.heap.size + 1) (.slice (some ⟨g, 0, none⟩) Ll.length cap) usl (castLL Ll) ∧ w6.heap[w.heap.size]? = some (.cells #[v] 26 (0, 0)) ∧ Below w.heap.size w w6 ∧ w5.heap.size ≤ w6.heap.size ∧ (∀ u ∈ usl, ∀ k, u.ownBlock = some k → g6 ≠ k) ∧ (∀ u ∈ uso ++ [Value.slice (some ⟨g1, 0, none⟩) G.length c1], ∀ k, u.ownBlock = some k → g6 ≠ k)) := by
              intro g1 c1 g5 c5 w5 o5 d5 l5 bx5 bl5 zw5 zg1 zg15 g6 c6 w6 o6 gr6 pl6
              have dlt : ∀ k, (Value.slice da D.length dc).ownBlock = some k → k < wr.heap.size := fun k hk => (SR.don.lt k hk).2
              have nb : ∀ u ∈ uso ++ [Value.slice (some ⟨g1, 0, none⟩) G.length c1], ∀ k, u.ownBlock = some k → (Value.slice da D.length dc).ownBlock ≠ some k := fun u hu k hk e => by
                rcases List.mem_append.1 hu with hu | hu
                · exact SR.od u hu k hk e
                · have e1 : u = Value.slice (some ⟨g1, 0, none⟩) G.length c1 := by simpa using hu
                  subst e1
                  have e2 : g1 = k := by simpa [Value.ownBlock] using hk
                  have := dlt k e
                  omega
              have gne : ∀ k, k < w5.heap.size → (Value.slice da D.length dc).ownBlock ≠ some k → g6 ≠ k := fun k hk hne e => by
                subst e
                rcases pl6 with h | h
                · exact hne h
                · omega
              refine ⟨o5.same (fun k hk => gr6.block k (o5.row.lt k hk).2 (fun e => row_kind o5.row d5 (by decide) hk e.symm)) (fun u hu k hk => gr6.block k (o5.ltI hu hk).2 (fun e => nb u hu k hk e.symm)), ?_, l5.same (fun k hk => gr6.block k (l5.row.lt k hk).2 (fun e => row_kind l5.row d5 (by decide) hk e.symm)) (fun u hu k hk => gr6.block k (l5.ltI hu hk).2 (fun e => SR.ld u hu k hk e.symm)), ?_, bl5.grown gr6 bl5.size (fun k e => by have := (d5.lt k e).1; omega), gr6.size, fun u hu k hk => gne k (l5.ltI hu hk).2 (SR.ld u hu k hk), fun u hu k hk => gne k (o5.ltI hu hk).2 (nb u hu k hk)⟩
              · have e1 : nats (D ++ G) = nats D ++ nats G := by simp [nats, ints]
                rw [e1, List.length_append]
                exact o6
              · exact (gr6.block w.heap.size (Array.getElem?_eq_some_iff.1 bx5).1 (fun e => by have := (d5.lt _ e.symm).1; omega)).trans bx5
            have hcap : Ll.length ≤ cap ∧ cap ≤ maxLen := by
              rcases SR.lft.row.2 with ⟨h, _⟩ | ⟨g', cap', cur, h, _, _, h1, h2, _⟩
              · cases h
              · simp only [Value.slice.injEq] at h
                obtain ⟨_, e2, rfl⟩ := h
                exact ⟨by rw [e2]; exact h1, h2⟩
            obtain ⟨hcp1, hcp2⟩ := hcap
            unfold maxLen at hcp2
            have hul : usl.length = Ll.length := by have := SR.lft.len; simpa [castLL] using this
            have HUL : Hid _ := hul
            have HONE : Hid (∀ u ∈ usl, u.oneCell' = true) := fun u hu => by
              obtain ⟨xs, _, ho⟩ := SR.lft.inner hu
              obtain ⟨a, c, e, _⟩ := reads_own ho
              rw [e]; rfl
            have hicp : (i : Int) ≤ (cap : Int) := by omega
            have hicp2 : i ≤ cap := by omega
            obtain ⟨J, hJ⟩ : ∃ J, i + 1 = J := ⟨_, rfl⟩
            have HJ : Hid _ := hJ
            have hJN : (J : Int) ≤ (Ll.length : Int) := by omega
            have hJc : (J : Int) ≤ (cap : Int) := by omega
            have hJi : (i : Int) + 1 = (J : Int) := by omega
            have hJw : IntKind.i64.wrap (J : Int) = (J : Int) := IntWalk.i64_in _ (by omega)
            clear hJ hul
            clear SR hGG gm hgin hgm hgne ba0 og cg hB
            by_cases hlk : k < Ll.length
            · have hlk' : (k : Int) < (Ll.length : Int) := by omega
              go_wp2_with (first
                | (at_builtin; refine wpList_append_lies _ rfl (.tmp 80) (.tmp 84) 30 rfl wr.heap.size 2 i0 (.int .i64 0) 1 8 Try.underlying30 hi0 hz0 hz1 hz2 rfl (by decide) _ 0 [] rfl HM0.out ⟨ga, 0, none⟩ G.length gc (nats G) rfl HNL.out (HSRC.out _ (fun q => HBA0.out.cell (p := ⟨ga, q, none⟩) zga.2)) H1C.out (by omega) (by unfold maxLen; omega) (by omega) (by simp) _ rfl ?_; intro g1 c1 w4 own4 grow4 pl4 lt4; obtain ⟨k1, k2, k3⟩ := HK4.out g1 c1 w4 own4 grow4; (have K1 : Hid (Below wr.heap.size wr w4) := k1); (have K2 : Hid ((w4.alloc (.cells #[.slice (some ⟨g1, 0, none⟩) G.length c1] 30)).ownsRow (w.heap.size + 1) 30 1 u3 Lo.length uso) := k2); (have K3 : Hid (w4.ownsRow wr.heap.size 2 1 (.slice (some ⟨g1, 0, none⟩) G.length c1) G.length (nats G)) := k3); (have s4 := k1.size); clear k1 k2 k3 own4 grow4 pl4 lt4)
                | (at_builtin; refine wpList_append_lies _ rfl (.tmp 79) (.tmp 86) 52 rfl (w.heap.size + 1) 30 i1 (.slice none 0 0) 1 24 Try.underlying52 hjS hy0 hy1 hy2 rfl (by decide) u3 Lo.length uso rfl K2.out ⟨w4.heap.size, 0, none⟩ 1 1 [.slice (some ⟨g1, 0, none⟩) G.length c1] rfl rfl (by have := World.news_of_block (heap_alloc_new w4 (.cells #[.slice (some ⟨g1, 0, none⟩) G.length c1] 30)); simp at this; exact this) (by intro y hy; simp at hy; subst hy; rfl) (by decide) (by unfold maxLen; omega) (by omega) (by simp; omega) _ rfl ?_; intro g5 c5 w5 own5 grow5 pl5 lt5; obtain ⟨q1, q2, q3, q4, q5, q6, q7, q8, q9, q10, q11⟩ := HK5.out g1 c1 w4 K1.out K3.out g5 c5 w5 own5 grow5 pl5; (have Q2 : Hid (∀ q, w5.cell? ⟨ga, q, none⟩ = wr.cell? ⟨ga, q, none⟩) := q2); (have Q3 : Hid _ := q3); (have Q4 : Hid (w5.ownsRow (w.heap.size + 1) 2 1 (.slice da D.length dc) D.length (nats D)) := q4); (have Q5 : Hid _ := q5); (have Q6 : Hid _ := q6); (have Q7 : Hid (Below w.heap.size w w5) := q7); clear q2 q3 q4 q5 q6 q7 own5 grow5 pl5 lt5 K2)
                | (at_builtin; refine wpList_append_lies _ rfl (.tmp 88) (.tmp 92) 30 rfl (w.heap.size + 1) 2 i0 (.int .i64 0) 1 8 Try.underlying30 hi0 hz0 hz1 hz2 rfl (by decide) _ D.length (nats D) rfl Q4.out ⟨ga, 0, none⟩ G.length gc (nats G) rfl HNL.out (HSRC.out _ Q2.out) H1C.out (by omega) (by unfold maxLen; omega) (by omega) (by omega) _ rfl ?_; intro g6 c6 w6 own6 grow6 pl6 lt6; obtain ⟨r1, r2, r3, r4, r5, r6, r7, r8⟩ := HK6.out g1 c1 g5 c5 w5 Q3.out Q4.out Q5.out Q6.out Q7.out q8 q9 q10 g6 c6 w6 own6 grow6 pl6; (have R1 : Hid _ := r1); (have R2 : Hid (w6.ownsRow (w.heap.size + 1) 2 1 (.slice (some ⟨g6, 0, none⟩) (D.length + G.length) c6) (D ++ G).length (nats (D ++ G))) := r2); (have R3 : Hid _ := r3); (have R4 : Hid _ := r4); (have R5 : Hid (Below w.heap.size w w6) := r5); (have R7 : Hid _ := r7); (have R8 : Hid _ := r8); clear r1 r2 r3 r4 r5 r7 r8 own6 grow6 pl6 lt6 Q2 Q3 Q4 Q5 Q6 Q7)
                | fail)
              have z6 : w.heap.size + 1 ≤ w6.heap.size := by have := (Array.getElem?_eq_some_iff.1 R4.out).1; omega
              have hgl6 := (R3.out.row.lt g rfl).2
              have B7 : Below w6.heap.size w6 (w6.drew.alloc (.cells #[] 30)) := (Below.drew (Below.refl _ _)).alloc (Nat.le_refl _) _
              have HM7 : Hid ((w6.drew.alloc (.cells #[] 30)).ownsRow w6.heap.size 30 1 (.slice (some ⟨w6.heap.size, 0, none⟩) 0 0) 0 []) := World.ownsRow_made w6.drew #[] 0 (Nat.le_refl _) (by decide) (by simp)
              have HCL : Hid (∀ (j : Nat) (u : Value), usl[j]? = some u → w6.cell? ⟨g, j, none⟩ = some u) := fun j u hj => by
                have hlt := (List.getElem?_eq_some_iff.1 hj).1
                have hr3 := R3.out.row
                rw [show (castLL Ll).length = Ll.length by simp [castLL]] at hr3
                rw [hr3.cellAt j (by rw [HUL.out] at hlt; omega)]
                exact hj
              have HT1 : Hid (∀ W : World, W.heap[g]? = w6.heap[g]? → ∀ (j : Nat) (u : Value), (usl.take i)[j]? = some u → W.cell? ((⟨g, 0, none⟩ : Addr).add j) = some u) := fun W hW j u hj => by
                have hlt := (List.getElem?_eq_some_iff.1 hj).1
                rw [List.length_take] at hlt
                rw [List.getElem?_take, if_pos (by omega)] at hj
                have e2 : (⟨g, 0, none⟩ : Addr).add j = ⟨g, j, none⟩ := by unfold Addr.add; split <;> simp_all
                rw [e2, World.cell?_of_block (a := ⟨g, j, none⟩) hW]
                exact HCL.out j u hj
              have HT2 : Hid (∀ W : World, W.heap[g]? = w6.heap[g]? → ∀ (j : Nat) (u : Value), (usl.drop J)[j]? = some u → W.cell? ((⟨g, J, none⟩ : Addr).add j) = some u) := fun W hW j u hj => by
                rw [List.getElem?_drop] at hj
                have e2 : (⟨g, J, none⟩ : Addr).add j = ⟨g, J + j, none⟩ := by unfold Addr.add; split <;> simp_all
                rw [e2, World.cell?_of_block (a := ⟨g, J + j, none⟩) hW]
                exact HCL.out (J + j) u hj
              have HL1 : Hid ((usl.take i).length = i * 1) := by
                show (usl.take i).length = i * 1
                rw [List.length_take, HUL.out]; omega
              have HL2 : Hid ((usl.drop J).length = (Ll.length - J) * 1) := by
                show (usl.drop J).length = (Ll.length - J) * 1
                rw [List.length_drop, HUL.out]; omega
              have HO1 : Hid (∀ u ∈ usl.take i, u.oneCell' = true) := fun u hu => HONE.out u (List.mem_of_mem_take hu)
              have HO2 : Hid (∀ u ∈ usl.drop J, u.oneCell' = true) := fun u hu => HONE.out u (List.mem_of_mem_drop hu)
              have HER : Hid (usl.take i ++ usl.drop J = usl.eraseIdx i) := by
                show usl.take i ++ usl.drop J = usl.eraseIdx i
                rw [List.eraseIdx_eq_take_drop_succ, HJ.out]
              have HB7 : Hid _ := B7
              clear B7
              by_cases hi0' : 0 < i
              · by_cases hJL : J < Ll.length
                · have hcJ : ¬ cap = J := by omega
                  go_region_law (first
                    | (refine step_append_lies _ rfl (.tmp 94) (.tmp 97) 52 rfl w6.heap.size 30 i1 (.slice none 0 0) 1 24 Try.underlying52 hjS hy0 hy1 hy2 rfl (by decide) (.slice (some ⟨w6.heap.size, 0, none⟩) 0 0) 0 [] rfl HM7.out ⟨g, 0, none⟩ i cap (usl.take i) rfl HL1.out (HT1.out _ (HB7.out.block g hgl6)) HO1.out hi0' (by unfold maxLen; omega) (by omega) (by simp) _ rfl ?_; intro g7 c7 w7 own7 grow7 pl7 lt7; (rw [Nat.zero_add, List.nil_append] at own7); (have N7 : Hid (w7.heap[g]? = w6.heap[g]?) := (grow7.block g (show g < (w6.drew.alloc (.cells #[] 30)).heap.size by simp; omega) (fun e => by (have e1 : g = w6.heap.size := (by simpa [Value.ownBlock] using e)); omega)).trans (HB7.out.block g hgl6)))
                    | (refine step_append_lies _ rfl (.tmp 98) (.tmp 102) 52 rfl w6.heap.size 30 i1 (.slice none 0 0) 1 24 Try.underlying52 hjS hy0 hy1 hy2 rfl (by decide) (.slice (some ⟨g7, 0, none⟩) i c7) i (usl.take i) rfl own7 ⟨g, J, none⟩ (Ll.length - J) (cap - J) (usl.drop J) rfl HL2.out (HT2.out _ N7.out) HO2.out (by omega) (by unfold maxLen; omega) (by omega) (by have := grow7.size; simp at this; omega) _ rfl ?_; intro g8 c8 w8 own8 grow8 pl8 lt8))
                  have b8 : Below w6.heap.size w6 w8 := by
                    have b7 : Below w6.heap.size w6 w7 := HB7.out.grown grow7 HB7.out.size (fun k e => by have e1 : w6.heap.size = k := by simpa [Value.ownBlock] using e
                                                                                                          omega)
                    exact b7.grown grow8 b7.size (fun k e => by
                      have e1 : g7 = k := by simpa [Value.ownBlock] using e
                      have := (own7.lt g7 rfl).1
                      omega)
                  have o8 : w8.ownsRow w6.heap.size 30 1 (.slice (some ⟨g8, 0, none⟩) (i + (Ll.length - J)) c8) (Ll.length - 1) (usl.eraseIdx i) := by
                    rw [← HER.out]
                    have e1 : i + (Ll.length - J) = Ll.length - 1 := by have := HJ.out; omega
                    rw [e1] at own8 ⊢
                    exact own8
                  have S9 : Hid _ := SO.next HSR.out hi HGG.out HF.out R1.out R2.out R3.out R4.out R5.out R7.out R8.out o8 b8
                  clear own7 own8 grow7 grow8 pl7 pl8 lt7 lt8 o8 N7
                  generalize hd9 : Oper.dst _ = x9
                  obtain rfl : some 4 = x9 := hd9
                  simp only [Act.put, List.setIfInBounds_toArray, List.set_cons_succ, List.set_cons_zero]
                  go_wp2
                  go_roundw
                  case rel => exact ⟨uso ++ [Value.slice (some ⟨g1, 0, none⟩) G.length c1], usl.eraseIdx i, Lo ++ [G], Ll.eraseIdx i, D ++ G, f', by simp [lenOf], S9.out⟩
                  case measure =>
                    show 4 - (Lo.length + 1) < 4 - lenOf u3
                    rw [HOL.out]
                    omega
                · have hNJ : Ll.length - J = 0 := by omega
                  have hJle : (Ll.length : Int) ≤ (J : Int) := by omega
                  have HNJ : Hid _ := hNJ
                  by_cases hcJ : cap = J
                  · have hcJ2 : cap - J = 0 := by omega
                    have hiJ2 : i ≤ J := by omega
                    have hiJ3 : (i : Int) ≤ (J : Int) := by omega
                    obtain rfl : J = cap := hcJ.symm
                    clear hcJ
                    go_region_law (first
                      | (refine step_append_lies _ rfl (.tmp 94) (.tmp 97) 52 rfl w6.heap.size 30 i1 (.slice none 0 0) 1 24 Try.underlying52 hjS hy0 hy1 hy2 rfl (by decide) (.slice (some ⟨w6.heap.size, 0, none⟩) 0 0) 0 [] rfl HM7.out ⟨g, 0, none⟩ i J (usl.take i) rfl HL1.out (HT1.out _ (HB7.out.block g hgl6)) HO1.out hi0' (by unfold maxLen; omega) (by omega) (by simp) _ rfl ?_; intro g7 c7 w7 own7 grow7 pl7 lt7; (rw [Nat.zero_add, List.nil_append] at own7); (have N7 : Hid (w7.heap[g]? = w6.heap[g]?) := (grow7.block g (show g < (w6.drew.alloc (.cells #[] 30)).heap.size by simp; omega) (fun e => by (have e1 : g = w6.heap.size := (by simpa [Value.ownBlock] using e)); omega)).trans (HB7.out.block g hgl6)); (have hc7 : i ≤ c7 := own_cap own7))
                      | fail)
                    have b7 : Below w6.heap.size w6 w7 := HB7.out.grown grow7 HB7.out.size (fun k e => by
                      have e1 : w6.heap.size = k := by simpa [Value.ownBlock] using e
                      omega)
                    have o7 : w7.ownsRow w6.heap.size 30 1 (.slice (some ⟨g7, 0, none⟩) i c7) (Ll.length - 1) (usl.eraseIdx i) := by
                      rw [← HER.out]
                      have e1 : i = Ll.length - 1 := by have := HJ.out; omega
                      have e2 : usl.drop J = [] := List.eq_nil_of_length_eq_zero (by rw [HL2.out, HNJ.out])
                      rw [e2, List.append_nil, ← e1]
                      exact own7
                    have S9 : Hid _ := SO.next HSR.out hi HGG.out HF.out R1.out R2.out R3.out R4.out R5.out R7.out R8.out o7 b7
                    clear own7 grow7 pl7 lt7 o7 N7
                    first
                      | (generalize hd9 : Oper.dst _ = x9; obtain rfl : some 4 = x9 := hd9; simp only [Act.put, List.setIfInBounds_toArray, List.set_cons_succ, List.set_cons_zero])
                      | skip
                    go_wp2
                    go_roundw
                    case rel => exact ⟨uso ++ [Value.slice (some ⟨g1, 0, none⟩) G.length c1], usl.eraseIdx i, Lo ++ [G], Ll.eraseIdx i, D ++ G, f', by simp [lenOf], S9.out⟩
                    case measure =>
                      show 4 - (Lo.length + 1) < 4 - lenOf u3
                      rw [HOL.out]
                      omega
                  · have hcJ2 : ¬ cap - J = 0 := by omega
                    go_region_law (first
                      | (refine step_append_lies _ rfl (.tmp 94) (.tmp 97) 52 rfl w6.heap.size 30 i1 (.slice none 0 0) 1 24 Try.underlying52 hjS hy0 hy1 hy2 rfl (by decide) (.slice (some ⟨w6.heap.size, 0, none⟩) 0 0) 0 [] rfl HM7.out ⟨g, 0, none⟩ i cap (usl.take i) rfl HL1.out (HT1.out _ (HB7.out.block g hgl6)) HO1.out hi0' (by unfold maxLen; omega) (by omega) (by simp) _ rfl ?_; intro g7 c7 w7 own7 grow7 pl7 lt7; (rw [Nat.zero_add, List.nil_append] at own7); (have N7 : Hid (w7.heap[g]? = w6.heap[g]?) := (grow7.block g (show g < (w6.drew.alloc (.cells #[] 30)).heap.size by simp; omega) (fun e => by (have e1 : g = w6.heap.size := (by simpa [Value.ownBlock] using e)); omega)).trans (HB7.out.block g hgl6)); (have hc7 : i ≤ c7 := own_cap own7))
                      | fail)
                    have b7 : Below w6.heap.size w6 w7 := HB7.out.grown grow7 HB7.out.size (fun k e => by
                      have e1 : w6.heap.size = k := by simpa [Value.ownBlock] using e
                      omega)
                    have o7 : w7.ownsRow w6.heap.size 30 1 (.slice (some ⟨g7, 0, none⟩) i c7) (Ll.length - 1) (usl.eraseIdx i) := by
                      rw [← HER.out]
                      have e1 : i = Ll.length - 1 := by have := HJ.out; omega
                      have e2 : usl.drop J = [] := List.eq_nil_of_length_eq_zero (by rw [HL2.out, HNJ.out])
                      rw [e2, List.append_nil, ← e1]
                      exact own7
                    have S9 : Hid _ := SO.next HSR.out hi HGG.out HF.out R1.out R2.out R3.out R4.out R5.out R7.out R8.out o7 b7
                    clear own7 grow7 pl7 lt7 o7 N7
                    first
                      | (generalize hd9 : Oper.dst _ = x9; obtain rfl : some 4 = x9 := hd9; simp only [Act.put, List.setIfInBounds_toArray, List.set_cons_succ, List.set_cons_zero])
                      | skip
                    go_wp2
                    go_roundw
                    case rel => exact ⟨uso ++ [Value.slice (some ⟨g1, 0, none⟩) G.length c1], usl.eraseIdx i, Lo ++ [G], Ll.eraseIdx i, D ++ G, f', by simp [lenOf], S9.out⟩
                    case measure =>
                      show 4 - (Lo.length + 1) < 4 - lenOf u3
                      rw [HOL.out]
                      omega
              · obtain rfl : i = 0 := by omega
                have hJ1 : J = 1 := by have := HJ.out; omega
                subst hJ1
                have e0 : usl.take 0 = [] := rfl
                have hw1 : IntKind.i64.wrap 1 = 1 := IntWalk.i64_in _ (by omega)
                have h1L : (1 : Int) ≤ (Ll.length : Int) := by omega
                have h1c : (1 : Int) ≤ (cap : Int) := by omega
                have h1n : 1 ≤ cap := by omega
                by_cases hJL : 1 < Ll.length
                · have hcJ : ¬ cap = 1 := by omega
                  go_region_law (first
                    | (refine step_append_lies _ rfl (.tmp 98) (.tmp 102) 52 rfl w6.heap.size 30 i1 (.slice none 0 0) 1 24 Try.underlying52 hjS hy0 hy1 hy2 rfl (by decide) (.slice (some ⟨w6.heap.size, 0, none⟩) 0 0) 0 [] rfl HM7.out ⟨g, 1, none⟩ (Ll.length - 1) (cap - 1) (usl.drop 1) rfl HL2.out (HT2.out _ (HB7.out.block g hgl6)) HO2.out (by omega) (by unfold maxLen; omega) (by omega) (by simp) _ rfl ?_; intro g8 c8 w8 own8 grow8 pl8 lt8)
                    | fail)
                  have b8 : Below w6.heap.size w6 w8 := HB7.out.grown grow8 HB7.out.size (fun k e => by
                    have e1 : w6.heap.size = k := by simpa [Value.ownBlock] using e
                    omega)
                  have o8 : w8.ownsRow w6.heap.size 30 1 (.slice (some ⟨g8, 0, none⟩) (0 + (Ll.length - 1)) c8) (Ll.length - 1) (usl.eraseIdx 0) := by
                    rw [← HER.out, e0]
                    rw [Nat.zero_add] at own8 ⊢
                    exact own8
                  rw [Nat.zero_add] at o8
                  have S9 : Hid _ := SO.next HSR.out hi HGG.out HF.out R1.out R2.out R3.out R4.out R5.out R7.out R8.out o8 b8
                  clear own8 grow8 pl8 lt8 o8
                  first
                    | (generalize hd9 : Oper.dst _ = x9; obtain rfl : some 4 = x9 := hd9; simp only [Act.put, List.setIfInBounds_toArray, List.set_cons_succ, List.set_cons_zero])
                    | skip
                  go_wp2
                  go_roundw
                  case rel => exact ⟨uso ++ [Value.slice (some ⟨g1, 0, none⟩) G.length c1], usl.eraseIdx 0, Lo ++ [G], Ll.eraseIdx 0, D ++ G, f', by simp [lenOf], S9.out⟩
                  case measure =>
                    show 4 - (Lo.length + 1) < 4 - lenOf u3
                    rw [HOL.out]
                    omega
                · have hNJ : Ll.length - 1 = 0 := by omega
                  have hL1 : Ll.length = 1 := by omega
                  have o7 : (w6.drew.alloc (.cells #[] 30)).ownsRow w6.heap.size 30 1 (.slice (some ⟨w6.heap.size, 0, none⟩) 0 0) (Ll.length - 1) (usl.eraseIdx 0) := by
                    rw [← HER.out, e0, List.eq_nil_of_length_eq_zero (by rw [HL2.out, hNJ] : (usl.drop 1).length = 0), hNJ]
                    exact HM7.out
                  have S9 : Hid _ := SO.next HSR.out hi HGG.out HF.out R1.out R2.out R3.out R4.out R5.out R7.out R8.out o7 HB7.out
                  clear o7
                  by_cases hcJ : cap = 1
                  · have hcJ2 : cap - 1 = 0 := by omega
                    go_region
                    first
                      | (generalize hd9 : Oper.dst _ = x9; obtain rfl : some 4 = x9 := hd9; simp only [Act.put, List.setIfInBounds_toArray, List.set_cons_succ, List.set_cons_zero])
                      | skip
                    go_wp2
                    go_roundw
                    case rel => exact ⟨uso ++ [Value.slice (some ⟨g1, 0, none⟩) G.length c1], usl.eraseIdx 0, Lo ++ [G], Ll.eraseIdx 0, D ++ G, f', by simp [lenOf], S9.out⟩
                    case measure =>
                      show 4 - (Lo.length + 1) < 4 - lenOf u3
                      rw [HOL.out]
                      omega
                  · go_region
                    first
                      | (generalize hd9 : Oper.dst _ = x9; obtain rfl : some 4 = x9 := hd9; simp only [Act.put, List.setIfInBounds_toArray, List.set_cons_succ, List.set_cons_zero])
                      | skip
                    go_wp2
                    go_roundw
                    case rel => exact ⟨uso ++ [Value.slice (some ⟨g1, 0, none⟩) G.length c1], usl.eraseIdx 0, Lo ++ [G], Ll.eraseIdx 0, D ++ G, f', by simp [lenOf], S9.out⟩
                    case measure =>
                      show 4 - (Lo.length + 1) < 4 - lenOf u3
                      rw [HOL.out]
                      omega
            · have hlk' : ¬ (k : Int) < (Ll.length : Int) := by omega
              go_wp2_with (first
                | (at_builtin; refine wpList_append_lies _ rfl (.tmp 80) (.tmp 84) 30 rfl wr.heap.size 2 i0 (.int .i64 0) 1 8 Try.underlying30 hi0 hz0 hz1 hz2 rfl (by decide) _ 0 [] rfl HM0.out ⟨ga, 0, none⟩ G.length gc (nats G) rfl HNL.out (HSRC.out _ (fun q => HBA0.out.cell (p := ⟨ga, q, none⟩) zga.2)) H1C.out (by omega) (by unfold maxLen; omega) (by omega) (by simp) _ rfl ?_; intro g1 c1 w4 own4 grow4 pl4 lt4; obtain ⟨k1, k2, k3⟩ := HK4.out g1 c1 w4 own4 grow4; (have K1 : Hid (Below wr.heap.size wr w4) := k1); (have K2 : Hid ((w4.alloc (.cells #[.slice (some ⟨g1, 0, none⟩) G.length c1] 30)).ownsRow (w.heap.size + 1) 30 1 u3 Lo.length uso) := k2); (have K3 : Hid (w4.ownsRow wr.heap.size 2 1 (.slice (some ⟨g1, 0, none⟩) G.length c1) G.length (nats G)) := k3); (have s4 := k1.size); clear k1 k2 k3 own4 grow4 pl4 lt4)
                | (at_builtin; refine wpList_append_lies _ rfl (.tmp 79) (.tmp 86) 52 rfl (w.heap.size + 1) 30 i1 (.slice none 0 0) 1 24 Try.underlying52 hjS hy0 hy1 hy2 rfl (by decide) u3 Lo.length uso rfl K2.out ⟨w4.heap.size, 0, none⟩ 1 1 [.slice (some ⟨g1, 0, none⟩) G.length c1] rfl rfl (by have := World.news_of_block (heap_alloc_new w4 (.cells #[.slice (some ⟨g1, 0, none⟩) G.length c1] 30)); simp at this; exact this) (by intro y hy; simp at hy; subst hy; rfl) (by decide) (by unfold maxLen; omega) (by omega) (by simp; omega) _ rfl ?_; intro g5 c5 w5 own5 grow5 pl5 lt5; obtain ⟨q1, q2, q3, q4, q5, q6, q7, q8, q9, q10, q11⟩ := HK5.out g1 c1 w4 K1.out K3.out g5 c5 w5 own5 grow5 pl5; (have Q2 : Hid (∀ q, w5.cell? ⟨ga, q, none⟩ = wr.cell? ⟨ga, q, none⟩) := q2); (have Q3 : Hid _ := q3); (have Q4 : Hid (w5.ownsRow (w.heap.size + 1) 2 1 (.slice da D.length dc) D.length (nats D)) := q4); (have Q5 : Hid _ := q5); (have Q6 : Hid _ := q6); (have Q7 : Hid (Below w.heap.size w w5) := q7); clear q2 q3 q4 q5 q6 q7 own5 grow5 pl5 lt5 K2)
                | (at_builtin; refine wpList_append_lies _ rfl (.tmp 88) (.tmp 92) 30 rfl (w.heap.size + 1) 2 i0 (.int .i64 0) 1 8 Try.underlying30 hi0 hz0 hz1 hz2 rfl (by decide) _ D.length (nats D) rfl Q4.out ⟨ga, 0, none⟩ G.length gc (nats G) rfl HNL.out (HSRC.out _ Q2.out) H1C.out (by omega) (by unfold maxLen; omega) (by omega) (by omega) _ rfl ?_; intro g6 c6 w6 own6 grow6 pl6 lt6; obtain ⟨r1, r2, r3, r4, r5, r6, r7, r8⟩ := HK6.out g1 c1 g5 c5 w5 Q3.out Q4.out Q5.out Q6.out Q7.out q8 q9 q10 g6 c6 w6 own6 grow6 pl6; (have R1 : Hid _ := r1); (have R2 : Hid (w6.ownsRow (w.heap.size + 1) 2 1 (.slice (some ⟨g6, 0, none⟩) (D.length + G.length) c6) (D ++ G).length (nats (D ++ G))) := r2); (have R3 : Hid _ := r3); (have R4 : Hid _ := r4); (have R5 : Hid (Below w.heap.size w w6) := r5); (have R7 : Hid _ := r7); (have R8 : Hid _ := r8); clear r1 r2 r3 r4 r5 r7 r8 own6 grow6 pl6 lt6 Q2 Q3 Q4 Q5 Q6 Q7)
                | fail)
              have z6 : w.heap.size + 1 ≤ w6.heap.size := by have := (Array.getElem?_eq_some_iff.1 R4.out).1; omega
              have hgl6 := (R3.out.row.lt g rfl).2
              have B7 : Below w6.heap.size w6 (w6.drew.alloc (.cells #[] 30)) := (Below.drew (Below.refl _ _)).alloc (Nat.le_refl _) _
              have HM7 : Hid ((w6.drew.alloc (.cells #[] 30)).ownsRow w6.heap.size 30 1 (.slice (some ⟨w6.heap.size, 0, none⟩) 0 0) 0 []) := World.ownsRow_made w6.drew #[] 0 (Nat.le_refl _) (by decide) (by simp)
              have HCL : Hid (∀ (j : Nat) (u : Value), usl[j]? = some u → w6.cell? ⟨g, j, none⟩ = some u) := fun j u hj => by
                have hlt := (List.getElem?_eq_some_iff.1 hj).1
                have hr3 := R3.out.row
                rw [show (castLL Ll).length = Ll.length by simp [castLL]] at hr3
                rw [hr3.cellAt j (by rw [HUL.out] at hlt; omega)]
                exact hj
              have HT1 : Hid (∀ W : World, W.heap[g]? = w6.heap[g]? → ∀ (j : Nat) (u : Value), (usl.take i)[j]? = some u → W.cell? ((⟨g, 0, none⟩ : Addr).add j) = some u) := fun W hW j u hj => by
                have hlt := (List.getElem?_eq_some_iff.1 hj).1
                rw [List.length_take] at hlt
                rw [List.getElem?_take, if_pos (by omega)] at hj
                have e2 : (⟨g, 0, none⟩ : Addr).add j = ⟨g, j, none⟩ := by unfold Addr.add; split <;> simp_all
                rw [e2, World.cell?_of_block (a := ⟨g, j, none⟩) hW]
                exact HCL.out j u hj
              have HT2 : Hid (∀ W : World, W.heap[g]? = w6.heap[g]? → ∀ (j : Nat) (u : Value), (usl.drop J)[j]? = some u → W.cell? ((⟨g, J, none⟩ : Addr).add j) = some u) := fun W hW j u hj => by
                rw [List.getElem?_drop] at hj
                have e2 : (⟨g, J, none⟩ : Addr).add j = ⟨g, J + j, none⟩ := by unfold Addr.add; split <;> simp_all
                rw [e2, World.cell?_of_block (a := ⟨g, J + j, none⟩) hW]
                exact HCL.out (J + j) u hj
              have HL1 : Hid ((usl.take i).length = i * 1) := by
                show (usl.take i).length = i * 1
                rw [List.length_take, HUL.out]; omega
              have HL2 : Hid ((usl.drop J).length = (Ll.length - J) * 1) := by
                show (usl.drop J).length = (Ll.length - J) * 1
                rw [List.length_drop, HUL.out]; omega
              have HO1 : Hid (∀ u ∈ usl.take i, u.oneCell' = true) := fun u hu => HONE.out u (List.mem_of_mem_take hu)
              have HO2 : Hid (∀ u ∈ usl.drop J, u.oneCell' = true) := fun u hu => HONE.out u (List.mem_of_mem_drop hu)
              have HER : Hid (usl.take i ++ usl.drop J = usl.eraseIdx i) := by
                show usl.take i ++ usl.drop J = usl.eraseIdx i
                rw [List.eraseIdx_eq_take_drop_succ, HJ.out]
              have HB7 : Hid _ := B7
              clear B7
              by_cases hi0' : 0 < i
              · by_cases hJL : J < Ll.length
                · have hcJ : ¬ cap = J := by omega
                  go_region_law (first
                    | (refine step_append_lies _ rfl (.tmp 94) (.tmp 97) 52 rfl w6.heap.size 30 i1 (.slice none 0 0) 1 24 Try.underlying52 hjS hy0 hy1 hy2 rfl (by decide) (.slice (some ⟨w6.heap.size, 0, none⟩) 0 0) 0 [] rfl HM7.out ⟨g, 0, none⟩ i cap (usl.take i) rfl HL1.out (HT1.out _ (HB7.out.block g hgl6)) HO1.out hi0' (by unfold maxLen; omega) (by omega) (by simp) _ rfl ?_; intro g7 c7 w7 own7 grow7 pl7 lt7; (rw [Nat.zero_add, List.nil_append] at own7); (have N7 : Hid (w7.heap[g]? = w6.heap[g]?) := (grow7.block g (show g < (w6.drew.alloc (.cells #[] 30)).heap.size by simp; omega) (fun e => by (have e1 : g = w6.heap.size := (by simpa [Value.ownBlock] using e)); omega)).trans (HB7.out.block g hgl6)))
                    | (refine step_append_lies _ rfl (.tmp 98) (.tmp 102) 52 rfl w6.heap.size 30 i1 (.slice none 0 0) 1 24 Try.underlying52 hjS hy0 hy1 hy2 rfl (by decide) (.slice (some ⟨g7, 0, none⟩) i c7) i (usl.take i) rfl own7 ⟨g, J, none⟩ (Ll.length - J) (cap - J) (usl.drop J) rfl HL2.out (HT2.out _ N7.out) HO2.out (by omega) (by unfold maxLen; omega) (by omega) (by have := grow7.size; simp at this; omega) _ rfl ?_; intro g8 c8 w8 own8 grow8 pl8 lt8))
                  have b8 : Below w6.heap.size w6 w8 := by
                    have b7 : Below w6.heap.size w6 w7 := HB7.out.grown grow7 HB7.out.size (fun k e => by have e1 : w6.heap.size = k := by simpa [Value.ownBlock] using e
                                                                                                          omega)
                    exact b7.grown grow8 b7.size (fun k e => by
                      have e1 : g7 = k := by simpa [Value.ownBlock] using e
                      have := (own7.lt g7 rfl).1
                      omega)
                  have o8 : w8.ownsRow w6.heap.size 30 1 (.slice (some ⟨g8, 0, none⟩) (i + (Ll.length - J)) c8) (Ll.length - 1) (usl.eraseIdx i) := by
                    rw [← HER.out]
                    have e1 : i + (Ll.length - J) = Ll.length - 1 := by have := HJ.out; omega
                    rw [e1] at own8 ⊢
                    exact own8
                  have S9 : Hid _ := SO.next HSR.out hi HGG.out HF.out R1.out R2.out R3.out R4.out R5.out R7.out R8.out o8 b8
                  clear own7 own8 grow7 grow8 pl7 pl8 lt7 lt8 o8 N7
                  generalize hd9 : Oper.dst _ = x9
                  obtain rfl : some 4 = x9 := hd9
                  simp only [Act.put, List.setIfInBounds_toArray, List.set_cons_succ, List.set_cons_zero]
                  go_wp2
                  go_roundw
                  case rel => exact ⟨uso ++ [Value.slice (some ⟨g1, 0, none⟩) G.length c1], usl.eraseIdx i, Lo ++ [G], Ll.eraseIdx i, D ++ G, f', by simp [lenOf], S9.out⟩
                  case measure =>
                    show 4 - (Lo.length + 1) < 4 - lenOf u3
                    rw [HOL.out]
                    omega
                · have hNJ : Ll.length - J = 0 := by omega
                  have hJle : (Ll.length : Int) ≤ (J : Int) := by omega
                  have HNJ : Hid _ := hNJ
                  by_cases hcJ : cap = J
                  · have hcJ2 : cap - J = 0 := by omega
                    have hiJ2 : i ≤ J := by omega
                    have hiJ3 : (i : Int) ≤ (J : Int) := by omega
                    obtain rfl : J = cap := hcJ.symm
                    clear hcJ
                    go_region_law (first
                      | (refine step_append_lies _ rfl (.tmp 94) (.tmp 97) 52 rfl w6.heap.size 30 i1 (.slice none 0 0) 1 24 Try.underlying52 hjS hy0 hy1 hy2 rfl (by decide) (.slice (some ⟨w6.heap.size, 0, none⟩) 0 0) 0 [] rfl HM7.out ⟨g, 0, none⟩ i J (usl.take i) rfl HL1.out (HT1.out _ (HB7.out.block g hgl6)) HO1.out hi0' (by unfold maxLen; omega) (by omega) (by simp) _ rfl ?_; intro g7 c7 w7 own7 grow7 pl7 lt7; (rw [Nat.zero_add, List.nil_append] at own7); (have N7 : Hid (w7.heap[g]? = w6.heap[g]?) := (grow7.block g (show g < (w6.drew.alloc (.cells #[] 30)).heap.size by simp; omega) (fun e => by (have e1 : g = w6.heap.size := (by simpa [Value.ownBlock] using e)); omega)).trans (HB7.out.block g hgl6)); (have hc7 : i ≤ c7 := own_cap own7))
                      | fail)
                    have b7 : Below w6.heap.size w6 w7 := HB7.out.grown grow7 HB7.out.size (fun k e => by
                      have e1 : w6.heap.size = k := by simpa [Value.ownBlock] using e
                      omega)
                    have o7 : w7.ownsRow w6.heap.size 30 1 (.slice (some ⟨g7, 0, none⟩) i c7) (Ll.length - 1) (usl.eraseIdx i) := by
                      rw [← HER.out]
                      have e1 : i = Ll.length - 1 := by have := HJ.out; omega
                      have e2 : usl.drop J = [] := List.eq_nil_of_length_eq_zero (by rw [HL2.out, HNJ.out])
                      rw [e2, List.append_nil, ← e1]
                      exact own7
                    have S9 : Hid _ := SO.next HSR.out hi HGG.out HF.out R1.out R2.out R3.out R4.out R5.out R7.out R8.out o7 b7
                    clear own7 grow7 pl7 lt7 o7 N7
                    first
                      | (generalize hd9 : Oper.dst _ = x9; obtain rfl : some 4 = x9 := hd9; simp only [Act.put, List.setIfInBounds_toArray, List.set_cons_succ, List.set_cons_zero])
                      | skip
                    go_wp2
                    go_roundw
                    case rel => exact ⟨uso ++ [Value.slice (some ⟨g1, 0, none⟩) G.length c1], usl.eraseIdx i, Lo ++ [G], Ll.eraseIdx i, D ++ G, f', by simp [lenOf], S9.out⟩
                    case measure =>
                      show 4 - (Lo.length + 1) < 4 - lenOf u3
                      rw [HOL.out]
                      omega
                  · have hcJ2 : ¬ cap - J = 0 := by omega
                    go_region_law (first
                      | (refine step_append_lies _ rfl (.tmp 94) (.tmp 97) 52 rfl w6.heap.size 30 i1 (.slice none 0 0) 1 24 Try.underlying52 hjS hy0 hy1 hy2 rfl (by decide) (.slice (some ⟨w6.heap.size, 0, none⟩) 0 0) 0 [] rfl HM7.out ⟨g, 0, none⟩ i cap (usl.take i) rfl HL1.out (HT1.out _ (HB7.out.block g hgl6)) HO1.out hi0' (by unfold maxLen; omega) (by omega) (by simp) _ rfl ?_; intro g7 c7 w7 own7 grow7 pl7 lt7; (rw [Nat.zero_add, List.nil_append] at own7); (have N7 : Hid (w7.heap[g]? = w6.heap[g]?) := (grow7.block g (show g < (w6.drew.alloc (.cells #[] 30)).heap.size by simp; omega) (fun e => by (have e1 : g = w6.heap.size := (by simpa [Value.ownBlock] using e)); omega)).trans (HB7.out.block g hgl6)); (have hc7 : i ≤ c7 := own_cap own7))
                      | fail)
                    have b7 : Below w6.heap.size w6 w7 := HB7.out.grown grow7 HB7.out.size (fun k e => by
                      have e1 : w6.heap.size = k := by simpa [Value.ownBlock] using e
                      omega)
                    have o7 : w7.ownsRow w6.heap.size 30 1 (.slice (some ⟨g7, 0, none⟩) i c7) (Ll.length - 1) (usl.eraseIdx i) := by
                      rw [← HER.out]
                      have e1 : i = Ll.length - 1 := by have := HJ.out; omega
                      have e2 : usl.drop J = [] := List.eq_nil_of_length_eq_zero (by rw [HL2.out, HNJ.out])
                      rw [e2, List.append_nil, ← e1]
                      exact own7
                    have S9 : Hid _ := SO.next HSR.out hi HGG.out HF.out R1.out R2.out R3.out R4.out R5.out R7.out R8.out o7 b7
                    clear own7 grow7 pl7 lt7 o7 N7
                    first
                      | (generalize hd9 : Oper.dst _ = x9; obtain rfl : some 4 = x9 := hd9; simp only [Act.put, List.setIfInBounds_toArray, List.set_cons_succ, List.set_cons_zero])
                      | skip
                    go_wp2
                    go_roundw
                    case rel => exact ⟨uso ++ [Value.slice (some ⟨g1, 0, none⟩) G.length c1], usl.eraseIdx i, Lo ++ [G], Ll.eraseIdx i, D ++ G, f', by simp [lenOf], S9.out⟩
                    case measure =>
                      show 4 - (Lo.length + 1) < 4 - lenOf u3
                      rw [HOL.out]
                      omega
              · obtain rfl : i = 0 := by omega
                have hJ1 : J = 1 := by have := HJ.out; omega
                subst hJ1
                have e0 : usl.take 0 = [] := rfl
                have hw1 : IntKind.i64.wrap 1 = 1 := IntWalk.i64_in _ (by omega)
                have h1L : (1 : Int) ≤ (Ll.length : Int) := by omega
                have h1c : (1 : Int) ≤ (cap : Int) := by omega
                have h1n : 1 ≤ cap := by omega
                by_cases hJL : 1 < Ll.length
                · have hcJ : ¬ cap = 1 := by omega
                  go_region_law (first
                    | (refine step_append_lies _ rfl (.tmp 98) (.tmp 102) 52 rfl w6.heap.size 30 i1 (.slice none 0 0) 1 24 Try.underlying52 hjS hy0 hy1 hy2 rfl (by decide) (.slice (some ⟨w6.heap.size, 0, none⟩) 0 0) 0 [] rfl HM7.out ⟨g, 1, none⟩ (Ll.length - 1) (cap - 1) (usl.drop 1) rfl HL2.out (HT2.out _ (HB7.out.block g hgl6)) HO2.out (by omega) (by unfold maxLen; omega) (by omega) (by simp) _ rfl ?_; intro g8 c8 w8 own8 grow8 pl8 lt8)
                    | fail)
                  have b8 : Below w6.heap.size w6 w8 := HB7.out.grown grow8 HB7.out.size (fun k e => by
                    have e1 : w6.heap.size = k := by simpa [Value.ownBlock] using e
                    omega)
                  have o8 : w8.ownsRow w6.heap.size 30 1 (.slice (some ⟨g8, 0, none⟩) (0 + (Ll.length - 1)) c8) (Ll.length - 1) (usl.eraseIdx 0) := by
                    rw [← HER.out, e0]
                    rw [Nat.zero_add] at own8 ⊢
                    exact own8
                  rw [Nat.zero_add] at o8
                  have S9 : Hid _ := SO.next HSR.out hi HGG.out HF.out R1.out R2.out R3.out R4.out R5.out R7.out R8.out o8 b8
                  clear own8 grow8 pl8 lt8 o8
                  first
                    | (generalize hd9 : Oper.dst _ = x9; obtain rfl : some 4 = x9 := hd9; simp only [Act.put, List.setIfInBounds_toArray, List.set_cons_succ, List.set_cons_zero])
                    | skip
                  go_wp2
                  go_roundw
                  case rel => exact ⟨uso ++ [Value.slice (some ⟨g1, 0, none⟩) G.length c1], usl.eraseIdx 0, Lo ++ [G], Ll.eraseIdx 0, D ++ G, f', by simp [lenOf], S9.out⟩
                  case measure =>
                    show 4 - (Lo.length + 1) < 4 - lenOf u3
                    rw [HOL.out]
                    omega
                · have hNJ : Ll.length - 1 = 0 := by omega
                  have hL1 : Ll.length = 1 := by omega
                  have o7 : (w6.drew.alloc (.cells #[] 30)).ownsRow w6.heap.size 30 1 (.slice (some ⟨w6.heap.size, 0, none⟩) 0 0) (Ll.length - 1) (usl.eraseIdx 0) := by
                    rw [← HER.out, e0, List.eq_nil_of_length_eq_zero (by rw [HL2.out, hNJ] : (usl.drop 1).length = 0), hNJ]
                    exact HM7.out
                  have S9 : Hid _ := SO.next HSR.out hi HGG.out HF.out R1.out R2.out R3.out R4.out R5.out R7.out R8.out o7 HB7.out
                  clear o7
                  by_cases hcJ : cap = 1
                  · have hcJ2 : cap - 1 = 0 := by omega
                    go_region
                    first
                      | (generalize hd9 : Oper.dst _ = x9; obtain rfl : some 4 = x9 := hd9; simp only [Act.put, List.setIfInBounds_toArray, List.set_cons_succ, List.set_cons_zero])
                      | skip
                    go_wp2
                    go_roundw
                    case rel => exact ⟨uso ++ [Value.slice (some ⟨g1, 0, none⟩) G.length c1], usl.eraseIdx 0, Lo ++ [G], Ll.eraseIdx 0, D ++ G, f', by simp [lenOf], S9.out⟩
                    case measure =>
                      show 4 - (Lo.length + 1) < 4 - lenOf u3
                      rw [HOL.out]
                      omega
                  · go_region
                    first
                      | (generalize hd9 : Oper.dst _ = x9; obtain rfl : some 4 = x9 := hd9; simp only [Act.put, List.setIfInBounds_toArray, List.set_cons_succ, List.set_cons_zero])
                      | skip
                    go_wp2
                    go_roundw
                    case rel => exact ⟨uso ++ [Value.slice (some ⟨g1, 0, none⟩) G.length c1], usl.eraseIdx 0, Lo ++ [G], Ll.eraseIdx 0, D ++ G, f', by simp [lenOf], S9.out⟩
                    case measure =>
                      show 4 - (Lo.length + 1) < 4 - lenOf u3
                      rw [HOL.out]
                      omega
      · have hL0 : Ll = [] := List.eq_nil_of_length_eq_zero (by omega)
        subst hL0
        obtain ⟨la, lc, hlv⟩ : ∃ a c, u4 = .slice a 0 c := by
          obtain ⟨a, c, e, _⟩ := reads_own hS.lft.row
          exact ⟨a, c, by rw [e, hlu]; rfl⟩
        subst hlv
        have hsum := hS.sum
        have hln := hS.len
        have hnil : ordS (NC ps) f [] D = [] := List.eq_nil_of_length_eq_zero (by rw [hln]; rfl)
        rw [hnil, List.append_nil] at hsum
        have HSUM : Hid _ := hsum
        clear hS hsum hln hnil hov
        go_wp2
        go_ret
        exact ⟨u3, uso, rfl, by rw [← HSUM.out]; exact HS.out.out.mono (by omega), HS.out.below⟩

end Go.Proofs.Ytmloeldgeegddaa
