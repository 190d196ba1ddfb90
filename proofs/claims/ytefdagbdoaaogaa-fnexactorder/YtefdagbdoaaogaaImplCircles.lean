/-
  impl.Circles.
-/
import Derived.Test.YtefdagbdoaaogaaImplGroups2
namespace Go.Proofs.Ytefdagbdoaaogaa
open Go.RowKit
set_option linter.unusedVariables false
set_option maxHeartbeats 4000000
set_option maxRecDepth 20000

/-- What both answer. -/
def CircA (ps : List (List Stm)) (c : List (List Nat)) : Prop := (programOk ps = true → ∃ r o, Groups ps r c o) ∧ (programOk ps = false → c = [])

theorem circA_some (ps : List (List Stm)) : ∃ c, CircA ps c := by
  cases hb : programOk ps with
  | false => exact ⟨[], by simp [hb], fun _ => rfl⟩
  | true =>
    obtain ⟨r, c, o, h⟩ := groups_of hb
    exact ⟨c, fun _ => ⟨r, o, h⟩, by simp [hb]⟩

theorem flatten_ne {c : List (List Nat)} {n : Nat} (h : c.flatten.length = n) (hn : 1 ≤ n) : 1 ≤ c.length := by
  cases c with
  | nil => simp at h; omega
  | cons _ _ => simp

theorem groups_tarjan {ps : List (List Stm)} {r : Nat → Nat → Bool} {c o : List (List Nat)} (h4 : ps.length ≤ 4) (h : Groups ps r c o) : isrt ltG [] (tarjan ps.length (NC ps)).groups = c := by
  have h1 := h.asked.circ
  unfold circI NS at h1
  rw [tarjan_noSelf (fun i _ y hy => by have := NC_lt hy; omega) h4] at h1
  exact h1

theorem grow_ownSS {w : World} {base g N cap : Nat} {L : List LV} (h : GRow w base g N cap L) : OwnSS w base (.slice (some ⟨g, 0, none⟩) N cap) (L.map Prod.fst) (castLL (L.map Prod.snd)) := by
  have hl := h.len
  have e : (castLL (L.map Prod.snd)).length = N := by simp [castLL, hl]
  refine ⟨by rw [e]; exact h.row, fun j u xs hj hx => ?_⟩
  unfold castLL at hx
  rw [List.map_map, List.getElem?_map] at hx
  rw [List.getElem?_map] at hj
  obtain ⟨x, hx1, hx2⟩ := Option.map_eq_some_iff.1 hx
  rw [hx1] at hj
  obtain rfl : x.1 = u := by simpa using hj
  have := (h.each x (List.mem_of_getElem? hx1)).2
  rw [← hx2]
  simpa [nats] using this

theorem implCircles (ps : List (List Stm)) (c : List (List Nat)) (hc : CircA ps c) (v : Value) (w : World) (hl : ps.length ≤ maxLen) (hp : ∀ p ∈ ps, p.length ≤ maxLen) (hv : ReadsP w v ps) :
    Calls Try.prog 8 #[.agg #[v]] w fun e w' => ∃ u us, e = .returned u ∧ OwnSS w' w.heap.size u us (castLL c) ∧ ApartSS us ∧ Below w.heap.size w w' := by
  have hb0 : Below w.heap.size w (w.alloc (.cells #[v] 26)) := by go_grown
  have he := implProgramOk ps v _ hl hp (readsP_below hv hb0)
  have H0 := heap_alloc_new w (.cells #[v] 26)
  have s0 : (w.alloc (.cells #[v] 26)).heap.size = w.heap.size + 1 := by simp
  cases hok : programOk ps
  · rw [hok] at he
    obtain rfl := hc.2 hok
    go_enter Try.func8, Try.ntmps8
    go_wp2_with (go_at_call 31; refine he.mono ?_; rintro e w2 ⟨rfl, b2⟩)
    go_ret
    exact ⟨_, [], rfl, nilS _ _, fun i j a b k _ h => by simp at h, hb0.trans (b2.mono hb0.size)⟩
  · rw [hok] at he
    obtain ⟨r, o, hG⟩ := hc.1 hok
    obtain ⟨h4, h1, _⟩ := programOk_len hok
    have hT := groups_tarjan h4 hG
    have hcl := flatten_ne hG.asked.cn h1
    have hgl : (tarjan ps.length (NC ps)).groups.length = c.length := by rw [← hT, isrt_length]
    have hinv := foldT_inv (C := NC ps) (fun i _ y hy => by have := NC_lt hy; omega) (List.range ps.length) begT begT_inv (fun p hp => by have := List.mem_range.1 hp; omega)
    have hc4 : (tarjan ps.length (NC ps)).groups.length ≤ 4 := by
      have h1 := hinv.few
      have h2 := hinv.zer
      show (List.foldl (stepT (NC ps)) begT (List.range ps.length)).groups.length ≤ 4
      omega
    have HT : Hid _ := hT
    clear hT hinv
    go_enter Try.func8, Try.ntmps8
    go_wp2_with fail
    go_at_call 31
    refine he.mono ?_
    rintro e w2 ⟨rfl, b2⟩
    obtain ⟨c2, f2⟩ := one_cell ((b2.block w.heap.size (by omega)).trans H0)
    have L2 := hb0.trans (b2.mono hb0.size)
    have hgo := groupsOf ps v w2 hok hl hp (readsP_below hv L2)
    clear he
    go_wp2_with fail
    go_at_call 32
    refine hgo.mono ?_
    rintro e w3 ⟨gv, L, rfl, hR, hLs, b3⟩
    clear hgo
    have hLl : L.length = (tarjan ps.length (NC ps)).groups.length := by rw [← hLs]; simp
    obtain ⟨g, cap, hgv⟩ : ∃ g cap, gv = .slice (some ⟨g, 0, none⟩) L.length cap := by
      rcases own_shape hR.row with ⟨_, e, _⟩ | ⟨g, cp, e, _⟩
      · omega
      · exact ⟨g, cp, e⟩
    subst hgv
    have hGR : GRow w3 w2.heap.size g L.length cap L := ⟨hR.row, hR.each, hR.ap⟩
    have hso := sortCmp L g cap w2.heap.size w3 (by omega) hGR
    have HLS : Hid _ := hLs
    have hgw2 : w2.heap.size ≤ g := (hR.row.lt g rfl).1
    clear hLl hgl hcl hc4 hLs hR hGR c2 f2
    go_wp2_with fail
    go_at_call 33
    refine hso.mono ?_
    rintro e w4 ⟨⟨x, rfl⟩, hS4, g4⟩
    clear hso
    have hown := grow_ownSS hS4
    have e1 : (isrt ltL lv0 L).map Prod.snd = c := by
      rw [isrt_map (lt := ltL) (lt' := ltG) Prod.snd lv0 (fun _ _ => rfl), HLS.out]
      exact HT.out
    rw [e1] at hown
    have HO : Hid _ := hown
    have L3 : Below w2.heap.size w2 w4 := b3.grown g4 b3.size (fun k e => by cases e; exact hgw2)
    clear hown e1
    go_wp2
    go_ret
    exact ⟨_, _, rfl, HO.out.mono L2.size, hS4.ap, L2.trans (L3.mono L2.size)⟩

end Go.Proofs.Ytefdagbdoaaogaa
