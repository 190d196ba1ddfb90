/-
  laws.szValue, szValueS: how much a value holds.
-/
import Derived.Test.YtepahapocgmhiaaValM
import Derived.Test.YtepahapocgmhiaaStrS
namespace Go.Proofs.Ytepahapocgmhiaa
open Go.RowKit
set_option linter.unusedVariables false
set_option linter.unusedSimpArgs false
set_option maxHeartbeats 2000000

/-- No more than l of anything, at every level. -/
def FineV : (d : Nat) → Int → Val d → Prop
  | 0, _, _ => True
  | d + 1, l, (k, n, t, its, ks) => (t.size : Int) ≤ l ∧ (its.length : Int) ≤ l ∧ (ks.length : Int) ≤ l ∧ (∀ x ∈ ks, (x.size : Int) ≤ l) ∧ ∀ x ∈ its, FineV d l x
theorem FineV.mono : ∀ {d : Nat} {l l' : Int} {x : Val d}, FineV d l x → l ≤ l' → FineV d l' x
  | 0, _, _, _, _, _ => trivial
  | d + 1, l, l', (k, n, t, its, ks), h, hl => by
    obtain ⟨h1, h2, h3, h4, h5⟩ := h
    exact ⟨by omega, by omega, by omega, fun x hx => by have := h4 x hx; omega, fun x hx => (h5 x hx).mono hl⟩

/-- What szValue answers. -/
def SzP {d : Nat} (x : Val d) (left : Int) (w : World) (e : Ending) (w' : World) : Prop := ∃ r : Int, e = .returned (.int .i64 r) ∧ r ≤ left ∧ -1 ≤ r ∧ (0 ≤ r → FineV d left x) ∧ Below w.heap.size w w'
def SzL {d : Nat} (its : List (Val d)) (left : Int) (w : World) (e : Ending) (w' : World) : Prop := ∃ r : Int, e = .returned (.int .i64 r) ∧ r ≤ left ∧ -1 ≤ r ∧ (0 ≤ r → (its.length : Int) ≤ left ∧ ∀ x ∈ its, FineV d left x) ∧ Below w.heap.size w w'

theorem five_in {w : World} {b : Nat} {x0 x1 x2 x3 x4 : Value} {T : TypeId} (h : w.heap[b]? = some (.cells #[x0, x1, x2, x3, x4] T (0, 0))) :
    w.cell? ⟨b, 0, none⟩ = some x0 ∧ w.cell? ⟨b, 1, none⟩ = some x1 ∧ w.cell? ⟨b, 2, none⟩ = some x2 ∧ w.cell? ⟨b, 3, none⟩ = some x3 ∧ w.cell? ⟨b, 4, none⟩ = some x4 := by
  refine ⟨?_, ?_, ?_, ?_, ?_⟩ <;> simp [World.cell?, h]

theorem szList {d : Nat} (ih : ∀ (x : Val d) (cs : List Value) (left : Int) (w : World), 0 ≤ left → left ≤ 1048576 → RdV d w cs x → Calls Try.prog 7 #[.agg cs.toArray, .int .i64 left] w (SzP x left w))
    (its : List (Val d)) (iv : Value) (left : Int) (w : World) (h0 : 0 ≤ left) (h1 : left ≤ 1048576) (hm : its.length ≤ maxLen) (hr : RdS w (RdV d w) iv its) : Calls Try.prog 23 #[iv, .int .i64 left] w (SzL its left w) := by
  unfold maxLen at hm
  have hr' := hr
  obtain ⟨ao, cap, rfl, hc⟩ := hr
  have hw1 : IntKind.i64.wrap (left - (its.length : Int)) = left - (its.length : Int) := IntWalk.i64_in _ (by omega)
  by_cases hl : left - (its.length : Int) < 0
  · have hd : decide (left - (its.length : Int) < 0) = true := decide_eq_true hl
    go_enter Try.func23, Try.ntmps23
    go_wp2
    go_ret
    exact ⟨-1, rfl, by omega, by omega, fun h => by omega, Below.refl _ _⟩
  · have hlen : (its.length : Int) ≤ left := by omega
    go_enter Try.func23, Try.ntmps23
    go_wp2_with fail
    go_loopw [1, 5] (fun q i wr => ∃ (k : Nat) (l : Int), k ≤ its.length ∧ i = .int .i64 k ∧ q = .int .i64 l ∧ 0 ≤ l ∧ l ≤ left ∧ (∀ x ∈ its.take k, FineV d left x) ∧ Below w.heap.size w wr) (fun _ i _ => its.length - (intOf i).toNat)
    case atStart => exact ⟨0, _, Nat.zero_le _, rfl, rfl, by omega, by omega, by simp, Below.refl _ _⟩
    case round =>
      obtain ⟨k, l, hk, rfl, rfl, hl0, hll, hf, hb⟩ := hrel
      have HF : Hid (∀ x ∈ its.take k, FineV d left x) := hf
      have HB : Hid (Below w.heap.size w wr) := hb
      clear hf
      by_cases hlt : k < its.length
      · have hlt' : (k : Int) < (its.length : Int) := by omega
        have hk0 : (0 : Int) ≤ (k : Int) := by omega
        obtain ⟨g, off, cs, ha, hcl, hcell, hrv⟩ := hc k its[k] (by simp [hlt])
        subst ha
        match cs, hcl with
        | [c0, c1, c2, c3, c4], _ =>
          have e0 := (hb.cell (World.block_lt_of_cell? w _ (hcell 0 (by omega)))).trans (hcell 0 (by omega))
          have e1 := (hb.cell (World.block_lt_of_cell? w _ (hcell 1 (by omega)))).trans (hcell 1 (by omega))
          have e2 := (hb.cell (World.block_lt_of_cell? w _ (hcell 2 (by omega)))).trans (hcell 2 (by omega))
          have e3 := (hb.cell (World.block_lt_of_cell? w _ (hcell 3 (by omega)))).trans (hcell 3 (by omega))
          have e4 := (hb.cell (World.block_lt_of_cell? w _ (hcell 4 (by omega)))).trans (hcell 4 (by omega))
          simp only [List.getElem?_cons_zero, List.getElem?_cons_succ, Nat.add_zero] at e0 e1 e2 e3 e4
          have hcall := ih its[k] [c0, c1, c2, c3, c4] l wr hl0 (by omega) (hrv.below hb)
          clear hb hcell hrv
          go_wp2_with fail
          go_at_call 7
          refine hcall.mono ?_
          rintro e w2 ⟨r, rfl, hr1, hr2, hr3, b2⟩
          have B2 : Hid (Below w.heap.size w w2) := HB.out.trans (b2.mono HB.out.size)
          have HR3 : Hid (0 ≤ r → FineV d l its[k]) := hr3
          clear hcall b2 hr3 e0 e1 e2 e3 e4
          by_cases hrn : r < 0
          · have hd : decide (r < 0) = true := decide_eq_true hrn
            go_wp2
            go_ret
            exact ⟨-1, rfl, by omega, by omega, fun h => by omega, B2.out⟩
          · have hd : decide (r < 0) = false := decide_eq_false hrn
            have HF2 : Hid (∀ x ∈ its.take (k + 1), FineV d left x) := fun x hx => by
              rw [List.take_succ_eq_append_getElem hlt, List.mem_append, List.mem_singleton] at hx
              rcases hx with hx | rfl
              · exact HF.out x hx
              · exact (HR3.out (by omega)).mono hll
            clear HF HR3
            go_wp2
            go_roundw
            case rel => exact ⟨k + 1, r, by omega, by go_num, rfl, by omega, by omega, HF2.out, B2.out⟩
            case measure => simp [intOf]; omega
      · obtain rfl : k = its.length := by omega
        have hnk : ¬ (its.length : Int) < (its.length : Int) := by omega
        have HF3 : Hid (∀ x ∈ its, FineV d left x) := fun x hx => HF.out x (by rw [List.take_length]; exact hx)
        clear hb HF
        go_wp2
        go_ret
        exact ⟨l, rfl, by omega, by omega, fun _ => ⟨hlen, HF3.out⟩, HB.out⟩

def SzT (ks : List ByteArray) (left : Int) (w : World) (e : Ending) (w' : World) : Prop := ∃ r : Int, e = .returned (.int .i64 r) ∧ r ≤ left ∧ -1 ≤ r ∧ (0 ≤ r → (ks.length : Int) ≤ left ∧ ∀ x ∈ ks, (x.size : Int) ≤ left) ∧ Below w.heap.size w w'
/-- szStringS, whatever is left. -/
theorem szTexts (ks : List ByteArray) (v : Value) (left : Int) (w : World) (h0 : 0 ≤ left) (h1 : left ≤ 1048576) (hm : ks.length ≤ maxLen) (hs : ∀ t ∈ ks, t.size ≤ maxLen) (hv : Reads w v (ks.map .string)) :
    Calls Try.prog 24 #[v, .int .i64 left] w (SzT ks left w) := by
  unfold maxLen at hm hs
  obtain ⟨ao, cap, rfl, hc⟩ := hv
  simp only [List.length_map]
  have hw1 : IntKind.i64.wrap (left - (ks.length : Int)) = left - (ks.length : Int) := IntWalk.i64_in _ (by omega)
  by_cases hl : left - (ks.length : Int) < 0
  · have hd : decide (left - (ks.length : Int) < 0) = true := decide_eq_true hl
    go_enter Try.func24, Try.ntmps24
    go_wp2
    go_ret
    exact ⟨-1, rfl, by omega, by omega, fun h => by omega, Below.refl _ _⟩
  · have hlen : (ks.length : Int) ≤ left := by omega
    go_enter Try.func24, Try.ntmps24
    go_wp2_with fail
    go_loopw [1, 5] (fun q i wr => ∃ (k : Nat) (l : Int), k ≤ ks.length ∧ i = .int .i64 k ∧ q = .int .i64 l ∧ 0 ≤ l ∧ l ≤ left ∧ (∀ x ∈ ks.take k, (x.size : Int) ≤ left) ∧ Below w.heap.size w wr) (fun _ i _ => ks.length - (intOf i).toNat)
    case atStart => exact ⟨0, _, Nat.zero_le _, rfl, rfl, by omega, by omega, by simp, Below.refl _ _⟩
    case round =>
      obtain ⟨k, l, hk, rfl, rfl, hl0, hll, hf, hb⟩ := hrel
      have HF : Hid (∀ x ∈ ks.take k, (x.size : Int) ≤ left) := hf
      clear hf
      by_cases hlt : k < ks.length
      · obtain ⟨g, off, rfl, hg⟩ := hc k (.string ks[k]) (by simp [hlt])
        have hg := (hb.cell (World.block_lt_of_cell? w _ hg)).trans hg
        have hlt' : (k : Int) < (ks.length : Int) := by omega
        have hk0 : (0 : Int) ≤ (k : Int) := by omega
        have hsz := hs ks[k] (List.getElem_mem hlt)
        have HB : Hid (Below w.heap.size w wr) := hb
        have HF2 : Hid ((ks[k].size : Int) ≤ l → ∀ x ∈ ks.take (k + 1), (x.size : Int) ≤ left) := fun h9 x hx => by
          rw [List.take_succ_eq_append_getElem hlt, List.mem_append, List.mem_singleton] at hx
          rcases hx with hx | rfl
          · exact HF.out x hx
          · omega
        clear hc hs HF hb
        obtain ⟨z, hz⟩ : ∃ z, ks[k].size = z := ⟨_, rfl⟩
        rw [hz] at hsz HF2
        have hw2 : IntKind.i64.wrap (l - (z : Int)) = l - (z : Int) := IntWalk.i64_in _ (by omega)
        by_cases h2 : l - (z : Int) < 0
        · have hd : decide (l - (z : Int) < 0) = true := decide_eq_true h2
          go_wp2
          go_ret
          exact ⟨-1, rfl, by omega, by omega, fun h => by omega, HB.out⟩
        · have hd : decide (l - (z : Int) < 0) = false := decide_eq_false h2
          have HF3 : Hid (∀ x ∈ ks.take (k + 1), (x.size : Int) ≤ left) := HF2.out (by omega)
          clear HF2
          go_wp2
          go_roundw
          case rel => exact ⟨k + 1, l - (z : Int), by omega, by go_num, by go_num, by omega, by omega, HF3.out, HB.out⟩
          case measure => simp [intOf]; omega
      · obtain rfl : k = ks.length := by omega
        have HB : Hid (Below w.heap.size w wr) := hb
        have HF3 : Hid (∀ x ∈ ks, (x.size : Int) ≤ left) := fun x hx => HF.out x (by rw [List.take_length]; exact hx)
        have hnk : ¬ (ks.length : Int) < (ks.length : Int) := by omega
        clear hb HF hs hc
        go_wp2
        go_ret
        exact ⟨l, rfl, by omega, by omega, fun _ => ⟨hlen, HF3.out⟩, HB.out⟩

theorem szValue : ∀ (d : Nat) (x : Val d) (cs : List Value) (left : Int) (w : World), 0 ≤ left → left ≤ 1048576 → RdV d w cs x → Calls Try.prog 7 #[.agg cs.toArray, .int .i64 left] w (SzP x left w)
  | 0, _, _, _, _, _, _, h => h.elim
  | d + 1, (k, n, t, its, ks), cs, left, w, h0, h1, h => by
    obtain ⟨iv, kv, rfl, hits, hil, hks, hkl, hts, hkx⟩ := h
    have ihl := fun l W a b c => szList (szValue d) its iv l W a b hil c
    have ihk := fun l W a b c => szTexts ks kv l W a b hkl hkx c
    obtain ⟨w0, hw0⟩ : ∃ W, w.alloc (.cells #[.int .i64 k, .int .i64 n, .string t, iv, kv] 25) = W := ⟨_, rfl⟩
    obtain ⟨b, hb⟩ : ∃ n, w.heap.size = n := ⟨_, rfl⟩
    have b0 : Below w.heap.size w w0 := by rw [← hw0]; go_grown
    have B0 : w0.heap[b]? = some (.cells #[.int .i64 k, .int .i64 n, .string t, iv, kv] 25 (0, 0)) := by rw [← hw0, ← hb]; exact heap_alloc_new w _
    obtain ⟨c0, c1, c2, c3, c4⟩ := five_in B0
    unfold maxLen at hts
    have hw1 : IntKind.i64.wrap (left - (t.size : Int)) = left - (t.size : Int) := IntWalk.i64_in _ (by omega)
    by_cases hl : left - (t.size : Int) < 0
    · have hd : decide (left - (t.size : Int) < 0) = true := decide_eq_true hl
      have HB0 : Hid (Below w.heap.size w w0) := b0
      go_enter Try.func7, Try.ntmps7
      go_wp2
      go_ret
      exact ⟨-1, rfl, by omega, by omega, fun h => by omega, HB0.out⟩
    · have hd : decide (left - (t.size : Int) < 0) = false := decide_eq_false hl
      have hcall := ihl (left - (t.size : Int)) w0 (by omega) (by omega) (hits.below b0 (fun cs x hx => RdV.below hx b0))
      have HK0 : Hid (Reads w0 kv (ks.map .string)) := reads_below hks b0
      have HB0 : Hid (Below w.heap.size w w0) := b0
      have BX : Hid (w0.heap[b]? = some (.cells #[.int .i64 k, .int .i64 n, .string t, iv, kv] 25 (0, 0))) := B0
      go_enter Try.func7, Try.ntmps7
      go_wp2_with fail
      go_at_call 23
      clear hw0 hb
      refine hcall.mono ?_
      rintro e w1 ⟨r, rfl, hr1, hr2, hr3, b1⟩
      have HR3 : Hid (0 ≤ r → (its.length : Int) ≤ left - (t.size : Int) ∧ ∀ x ∈ its, FineV d (left - (t.size : Int)) x) := hr3
      have HB1 : Hid (Below w.heap.size w w1) := HB0.out.trans (b1.mono HB0.out.size)
      have HK1 : Hid (Reads w1 kv (ks.map .string)) := reads_below HK0.out b1
      have B1 := (b1.block b (Array.getElem?_eq_some_iff.1 BX.out).1).trans BX.out
      clear hcall hr3 b1 c0 c1 c2 c3 c4 HK0 HB0 BX B0 b0
      obtain ⟨c0, c1, c2, c3, c4⟩ := five_in B1
      by_cases hrn : r < 0
      · have hd2 : decide (r < 0) = true := decide_eq_true hrn
        go_wp2
        go_ret
        exact ⟨-1, rfl, by omega, by omega, fun h => by omega, HB1.out⟩
      · have hd2 : decide (r < 0) = false := decide_eq_false hrn
        have hcall := ihk r w1 (by omega) (by omega) HK1.out
        go_wp2_with fail
        go_at_call 24
        refine hcall.mono ?_
        rintro e w2 ⟨r2, rfl, hs1, hs2, hs3, b2⟩
        have HS3 : Hid (0 ≤ r2 → (ks.length : Int) ≤ r ∧ ∀ x ∈ ks, (x.size : Int) ≤ r) := hs3
        have HB2 : Hid (Below w.heap.size w w2) := HB1.out.trans (b2.mono HB1.out.size)
        clear hcall hs3 b2 c0 c1 c2 c3 c4
        by_cases hrn2 : r2 < 0
        · have hd3 : decide (r2 < 0) = true := decide_eq_true hrn2
          go_wp2
          go_ret
          exact ⟨-1, rfl, by omega, by omega, fun h => by omega, HB2.out⟩
        · have hd3 : decide (r2 < 0) = false := decide_eq_false hrn2
          have HFin : Hid (FineV (d + 1) left (k, n, t, its, ks)) := by
            obtain ⟨a1, a2⟩ := HR3.out (by omega)
            obtain ⟨a3, a4⟩ := HS3.out (by omega)
            exact ⟨by omega, by omega, by omega, fun x hx => by have := a4 x hx; omega, fun x hx => (a2 x hx).mono (by omega)⟩
          clear HR3 HS3
          go_wp2
          go_ret
          exact ⟨r2, rfl, by omega, by omega, fun _ => HFin.out, HB2.out⟩

end Go.Proofs.Ytepahapocgmhiaa
