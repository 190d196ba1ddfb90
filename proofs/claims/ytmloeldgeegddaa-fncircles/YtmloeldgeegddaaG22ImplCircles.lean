/-
  Put together out of: ImplGroups2, ImplCircles.
-/
import Derived.Test.YtmloeldgeegddaaImplGroups
/-
  impl.groupsOf, impl.Circles.
-/
namespace Go.Proofs.Ytmloeldgeegddaa
open Go.RowKit
set_option linter.unusedVariables false
set_option maxHeartbeats 4000000
set_option maxRecDepth 20000

theorem six (w : World) (a b c d e f : Obj) : ((((((w.alloc a).alloc b).alloc c).alloc d).alloc e).alloc f).heap[w.heap.size]? = some a ∧ ((((((w.alloc a).alloc b).alloc c).alloc d).alloc e).alloc f).heap[w.heap.size + 1]? = some b ∧ ((((((w.alloc a).alloc b).alloc c).alloc d).alloc e).alloc f).heap[w.heap.size + 2]? = some c ∧
    ((((((w.alloc a).alloc b).alloc c).alloc d).alloc e).alloc f).heap[w.heap.size + 3]? = some d ∧ ((((((w.alloc a).alloc b).alloc c).alloc d).alloc e).alloc f).heap[w.heap.size + 4]? = some e ∧ ((((((w.alloc a).alloc b).alloc c).alloc d).alloc e).alloc f).heap[w.heap.size + 5]? = some f ∧ Below w.heap.size w ((((((w.alloc a).alloc b).alloc c).alloc d).alloc e).alloc f) := by
  have z1 : (w.alloc a).heap.size = w.heap.size + 1 := by simp
  have z2 : ((w.alloc a).alloc b).heap.size = w.heap.size + 2 := by simp
  have z3 : (((w.alloc a).alloc b).alloc c).heap.size = w.heap.size + 3 := by simp
  have z4 : ((((w.alloc a).alloc b).alloc c).alloc d).heap.size = w.heap.size + 4 := by simp
  have z5 : (((((w.alloc a).alloc b).alloc c).alloc d).alloc e).heap.size = w.heap.size + 5 := by simp
  have n0 := heap_alloc_new w a
  have n1 := heap_alloc_new (w.alloc a) b
  have n2 := heap_alloc_new ((w.alloc a).alloc b) c
  have n3 := heap_alloc_new (((w.alloc a).alloc b).alloc c) d
  have n4 := heap_alloc_new ((((w.alloc a).alloc b).alloc c).alloc d) e
  have n5 := heap_alloc_new (((((w.alloc a).alloc b).alloc c).alloc d).alloc e) f
  rw [z1] at n1
  rw [z2] at n2
  rw [z3] at n3
  rw [z4] at n4
  rw [z5] at n5
  refine ⟨?_, ?_, ?_, ?_, ?_, n5, by go_grown⟩
  · rw [old_block (by omega), old_block (by omega), old_block (by omega), old_block (by omega), old_block (by omega)]; exact n0
  · rw [old_block (by omega), old_block (by omega), old_block (by omega), old_block (by omega)]; exact n1
  · rw [old_block (by omega), old_block (by omega), old_block (by omega)]; exact n2
  · rw [old_block (by omega), old_block (by omega)]; exact n3
  · rw [old_block (by omega)]; exact n4

theorem groupsOf (ps : List (List Stm)) (v : Value) (w : World) (hok : programOk ps = true) (hl : ps.length ≤ maxLen) (hp : ∀ p ∈ ps, p.length ≤ maxLen) (hv : ReadsP w v ps) :
    Calls Try.prog 80 #[.agg #[v]] w fun e w' => ∃ gv L, e = .returned gv ∧ GR w' w.heap.size gv L ∧ L.map Prod.snd = (tarjan ps.length (NC ps)).groups ∧ Below w.heap.size w w' := by
  obtain ⟨h4, h1, _⟩ := programOk_len hok
  have hC : ∀ i, i < 4 → ∀ y ∈ NC ps i, y < 4 := fun i _ y hy => by have := NC_lt hy; omega
  obtain ⟨vo, vc, hvv⟩ : ∃ ao cap, v = .slice ao ps.length cap := by obtain ⟨ao, cap, rfl, _⟩ := hv; exact ⟨_, _, rfl⟩
  have hcl := earliest ps v w w.heap.size hok hl hp hv 4
  subst hvv
  go_enter Try.func80, Try.ntmps80
  go_wp2_with fail
  simp only [Nat.add_assoc, Nat.reduceAdd]
  obtain ⟨x0, x1, x2, x3, x4, x5, bW⟩ := six w (.cells #[.slice vo ps.length vc] 26) (.cells #[.slice none 0 0] 52) (.cells #[.slice none 0 0] 30) (.cells #[.int .i64 0, .int .i64 0, .int .i64 0, .int .i64 0] 124) (.cells #[.int .i64 0] 3) (.cells #[.func (.func 108) #[] #[.pointer (some ⟨w.heap.size + 4, 0, none⟩), .pointer (some ⟨w.heap.size + 2, 0, none⟩), .pointer (some ⟨w.heap.size + 3, 0, none⟩), .pointer (some ⟨w.heap.size, 0, none⟩), .pointer (some ⟨w.heap.size + 5, 0, none⟩), .pointer (some ⟨w.heap.size + 1, 0, none⟩)]] 125)
  generalize (((((w.alloc (.cells #[.slice vo ps.length vc] 26)).alloc (.cells #[.slice none 0 0] 52)).alloc (.cells #[.slice none 0 0] 30)).alloc (.cells #[.int .i64 0, .int .i64 0, .int .i64 0, .int .i64 0] 124)).alloc (.cells #[.int .i64 0] 3)).alloc (.cells #[.func (.func 108) #[] #[.pointer (some ⟨w.heap.size + 4, 0, none⟩), .pointer (some ⟨w.heap.size + 2, 0, none⟩), .pointer (some ⟨w.heap.size + 3, 0, none⟩), .pointer (some ⟨w.heap.size, 0, none⟩), .pointer (some ⟨w.heap.size + 5, 0, none⟩), .pointer (some ⟨w.heap.size + 1, 0, none⟩)]] 125) = W0 at *
  have S0 : Hid (TSt ps (.slice vo ps.length vc) w w.heap.size begT (.slice none 0 0) (.slice none 0 0) [] W0) :=
    ⟨x0, x1, x2, x3, x4, x5, ⟨by simp [begT, nats, ints], .inl ⟨rfl, rfl⟩⟩, GR.nil _ _, by simp, rfl, bW, Nat.le_refl _⟩
  clear x0 x1 x2 x3 x4 x5 bW
  have HCL : Hid _ := hcl
  have hps4 : (ps.length : Int) ≤ 4 := by omega
  clear hcl
  go_loopw [13] (fun iv wr => ∃ (k : Nat) (uv gv : Value) (L : List LV), k ≤ ps.length ∧ iv = .int .i64 k ∧ TSt ps (.slice vo ps.length vc) w w.heap.size ((List.range k).foldl (stepT (NC ps)) begT) uv gv L wr) (fun iv _ => ps.length - (intOf iv).toNat)
  case atStart => exact ⟨0, _, _, _, Nat.zero_le _, rfl, S0.out⟩
  case round =>
    obtain ⟨k, uv, gv, L, hk, rfl, hS⟩ := hrel
    clear S0
    have HS : Hid _ := hS
    have hinv := foldT_inv hC (List.range k) begT begT_inv (fun p hp => by have := List.mem_range.1 hp; omega)
    have hsn : (List.range (k + 1)).foldl (stepT (NC ps)) begT = stepT (NC ps) ((List.range k).foldl (stepT (NC ps)) begT) k := by rw [List.range_succ, List.foldl_append]; rfl
    obtain ⟨st, hst⟩ : ∃ st, (List.range k).foldl (stepT (NC ps)) begT = st := ⟨_, rfl⟩
    rw [hst] at hS hinv hsn HS
    have HSN : Hid _ := hsn
    have HST : Hid _ := hst
    clear hst hsn
    by_cases hlt : k < ps.length
    · have hlt' : (k : Int) < (ps.length : Int) := by omega
      have hk4 : (k : Int) < 4 := by omega
      obtain ⟨ct, _⟩ := hS.turn (i := k) (by omega)
      obtain ⟨cK, _⟩ := one_cell hS.ck
      obtain ⟨t0, ht0⟩ : ∃ t0, st.turns.getD k 0 = t0 := ⟨_, rfl⟩
      rw [ht0] at ct
      by_cases ht : t0 = 0
      · have hcall := HCL.out k st uv gv L wr hlt hinv (by rw [ht0]; exact ht) (by have := hinv.zer; omega) hS
        have HE : Hid (stepT (NC ps) st k = (visit (NC ps) 4 k st).2) := by
          show stepT (NC ps) st k = _
          unfold stepT
          rw [ht0, ht]
          rfl
        subst ht
        clear hS hinv ht0
        go_wp2_with fail
        go_at_call 108
        refine hcall.mono ?_
        rintro e w7 ⟨rfl, uv7, gv7, L7, S7, F7⟩
        clear hcall
        have HS7 : Hid _ := S7
        clear S7 F7
        obtain ⟨r, hr⟩ : ∃ r, visit (NC ps) 4 k st = r := ⟨_, rfl⟩
        rw [hr] at HS7 HE ⊢
        clear hr
        go_wp2
        go_roundw
        case rel => exact ⟨k + 1, uv7, gv7, L7, by omega, by go_num, by rw [HSN.out, HE.out]; exact HS7.out⟩
        case measure => simp [intOf]; omega
      · have htb : ((t0 : Int) == 0) = false := by simp; omega
        have htb2 : ¬ (t0 : Int) = 0 := by omega
        have HE : Hid (stepT (NC ps) st k = st) := by
          show stepT (NC ps) st k = _
          unfold stepT
          rw [ht0, beq0f.2 ht]
          rfl
        clear hS hinv ht0
        go_wp2
        go_roundw
        case rel => exact ⟨k + 1, uv, gv, L, by omega, by go_num, by rw [HSN.out, HE.out]; exact HS.out⟩
        case measure => simp [intOf]; omega
    · obtain rfl : k = ps.length := by omega
      obtain ⟨cg, _⟩ := one_cell hS.cg
      have hge : ¬ (ps.length : Int) < (ps.length : Int) := by omega
      obtain ⟨go_, gn_, gc_, hgw⟩ : ∃ x n c, gv = .slice x n c := by
        obtain ⟨x, c, e, _⟩ := reads_own hS.gr.row
        exact ⟨_, _, _, e⟩
      have HGW : Hid _ := hgw
      rw [hgw] at cg
      clear hS hinv hgw
      go_wp2
      go_ret
      refine ⟨gv, by rw [HGW.out]; rfl, L, ⟨own_mono HS.out.gr.row (by omega), fun x hx => ⟨(HS.out.gr.each x hx).1, own_mono (HS.out.gr.each x hx).2 (by omega)⟩, HS.out.gr.ap⟩, ?_, HS.out.below⟩
      rw [HS.out.gs, ← HST.out]
      rfl

end Go.Proofs.Ytmloeldgeegddaa

/-
  impl.Circles.
-/
namespace Go.Proofs.Ytmloeldgeegddaa
open Go.RowKit
set_option linter.unusedVariables false
set_option maxHeartbeats 4000000
set_option maxRecDepth 20000

/-- What both answer. -/
def CircA (ps : List (List Stm)) (c : List (List Nat)) : Prop := (programOk ps = true → ∃ r o, Groups ps r c o) ∧ (programOk ps = false → c = [])

theorem circA_some (ps : List (List Stm)) : ∃ c, CircA ps c := by
  cases hb : programOk ps with
  | false => exact ⟨[], by simp [hb], fun _ => rfl⟩
  | true =>
    obtain ⟨r, c, o, h⟩ := groups_of hb
    exact ⟨c, fun _ => ⟨r, o, h⟩, by simp [hb]⟩

theorem flatten_ne {c : List (List Nat)} {n : Nat} (h : c.flatten.length = n) (hn : 1 ≤ n) : 1 ≤ c.length := by
  cases c with
  | nil => simp at h; omega
  | cons _ _ => simp

theorem groups_tarjan {ps : List (List Stm)} {r : Nat → Nat → Bool} {c o : List (List Nat)} (h4 : ps.length ≤ 4) (h : Groups ps r c o) : isrt ltG [] (tarjan ps.length (NC ps)).groups = c := by
  have h1 := h.asked.circ
  unfold circI NS at h1
  rw [tarjan_noSelf (fun i _ y hy => by have := NC_lt hy; omega) h4] at h1
  exact h1

theorem grow_ownSS {w : World} {base g N cap : Nat} {L : List LV} (h : GRow w base g N cap L) : OwnSS w base (.slice (some ⟨g, 0, none⟩) N cap) (L.map Prod.fst) (castLL (L.map Prod.snd)) := by
  have hl := h.len
  have e : (castLL (L.map Prod.snd)).length = N := by simp [castLL, hl]
  refine ⟨by rw [e]; exact h.row, fun j u xs hj hx => ?_⟩
  unfold castLL at hx
  rw [List.map_map, List.getElem?_map] at hx
  rw [List.getElem?_map] at hj
  obtain ⟨x, hx1, hx2⟩ := Option.map_eq_some_iff.1 hx
  rw [hx1] at hj
  obtain rfl : x.1 = u := by simpa using hj
  have := (h.each x (List.mem_of_getElem? hx1)).2
  rw [← hx2]
  simpa [nats] using this

theorem implCircles (ps : List (List Stm)) (c : List (List Nat)) (hc : CircA ps c) (v : Value) (w : World) (hl : ps.length ≤ maxLen) (hp : ∀ p ∈ ps, p.length ≤ maxLen) (hv : ReadsP w v ps) :
    Calls Try.prog 34 #[.agg #[v]] w fun e w' => ∃ u us, e = .returned u ∧ OwnSS w' w.heap.size u us (castLL c) ∧ ApartSS us ∧ Below w.heap.size w w' := by
  have hb0 : Below w.heap.size w (w.alloc (.cells #[v] 26)) := by go_grown
  have he := implProgramOk ps v _ hl hp (readsP_below hv hb0)
  have H0 := heap_alloc_new w (.cells #[v] 26)
  have s0 : (w.alloc (.cells #[v] 26)).heap.size = w.heap.size + 1 := by simp
  cases hok : programOk ps
  · rw [hok] at he
    obtain rfl := hc.2 hok
    go_enter Try.func34, Try.ntmps34
    go_wp2_with (go_at_call 12; refine he.mono ?_; rintro e w2 ⟨rfl, b2⟩)
    go_ret
    exact ⟨_, [], rfl, nilS _ _, fun i j a b k _ h => by simp at h, hb0.trans (b2.mono hb0.size)⟩
  · rw [hok] at he
    obtain ⟨r, o, hG⟩ := hc.1 hok
    obtain ⟨h4, h1, _⟩ := programOk_len hok
    have hT := groups_tarjan h4 hG
    have hcl := flatten_ne hG.asked.cn h1
    have hgl : (tarjan ps.length (NC ps)).groups.length = c.length := by rw [← hT, isrt_length]
    have hinv := foldT_inv (C := NC ps) (fun i _ y hy => by have := NC_lt hy; omega) (List.range ps.length) begT begT_inv (fun p hp => by have := List.mem_range.1 hp; omega)
    have hc4 : (tarjan ps.length (NC ps)).groups.length ≤ 4 := by
      have h1 := hinv.few
      have h2 := hinv.zer
      show (List.foldl (stepT (NC ps)) begT (List.range ps.length)).groups.length ≤ 4
      omega
    have HT : Hid _ := hT
    clear hT hinv
    go_enter Try.func34, Try.ntmps34
    go_wp2_with fail
    go_at_call 12
    refine he.mono ?_
    rintro e w2 ⟨rfl, b2⟩
    obtain ⟨c2, f2⟩ := one_cell ((b2.block w.heap.size (by omega)).trans H0)
    have L2 := hb0.trans (b2.mono hb0.size)
    have hgo := groupsOf ps v w2 hok hl hp (readsP_below hv L2)
    clear he
    go_wp2_with fail
    go_at_call 80
    refine hgo.mono ?_
    rintro e w3 ⟨gv, L, rfl, hR, hLs, b3⟩
    clear hgo
    have hLl : L.length = (tarjan ps.length (NC ps)).groups.length := by rw [← hLs]; simp
    obtain ⟨g, cap, hgv⟩ : ∃ g cap, gv = .slice (some ⟨g, 0, none⟩) L.length cap := by
      rcases own_shape hR.row with ⟨_, e, _⟩ | ⟨g, cp, e, _⟩
      · omega
      · exact ⟨g, cp, e⟩
    subst hgv
    have hGR : GRow w3 w2.heap.size g L.length cap L := ⟨hR.row, hR.each, hR.ap⟩
    have hso := sortCmp L g cap w2.heap.size w3 (by omega) hGR
    have HLS : Hid _ := hLs
    have hgw2 : w2.heap.size ≤ g := (hR.row.lt g rfl).1
    clear hLl hgl hcl hc4 hLs hR hGR c2 f2
    go_wp2_with fail
    go_at_call 81
    refine hso.mono ?_
    rintro e w4 ⟨⟨x, rfl⟩, hS4, g4⟩
    clear hso
    have hown := grow_ownSS hS4
    have e1 : (isrt ltL lv0 L).map Prod.snd = c := by
      rw [isrt_map (lt := ltL) (lt' := ltG) Prod.snd lv0 (fun _ _ => rfl), HLS.out]
      exact HT.out
    rw [e1] at hown
    have HO : Hid _ := hown
    have L3 : Below w2.heap.size w2 w4 := b3.grown g4 b3.size (fun k e => by cases e; exact hgw2)
    clear hown e1
    go_wp2
    go_ret
    exact ⟨_, _, rfl, HO.out.mono L2.size, hS4.ap, L2.trans (L3.mono L2.size)⟩

end Go.Proofs.Ytmloeldgeegddaa
