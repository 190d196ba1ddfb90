/-
  laws.eqInt64SS: two lists of lists that are alike.
-/
import Derived.Test.YtmophdojojcpbaaLists
import Derived.Deep.RegionHeld3
import Derived.Deep.DrawnRows
namespace Go.Proofs.Ytmophdojojcpbaa
open Go.RowKit
set_option linter.unusedVariables false
set_option maxHeartbeats 1000000
attribute [local go_sem ↓] Go.wp_at_zero Go.wp_at_succ

/-- The slice v holds slices that hold the lists xss. -/
def ReadsSS (w : World) (v : Value) (xss : List (List Int)) : Prop :=
  ∃ ao cap, v = .slice ao xss.length cap ∧ ∀ j xs, xss[j]? = some xs → ∃ g off u, ao = some ⟨g, off, none⟩ ∧ w.cell? ⟨g, off + j, none⟩ = some u ∧ Reads w u (ints xs)

theorem readsSS_below {w w' : World} {v : Value} {xss : List (List Int)} (h : ReadsSS w v xss) (hb : Below w.heap.size w w') : ReadsSS w' v xss := by
  obtain ⟨ao, cap, rfl, hc⟩ := h
  refine ⟨ao, cap, rfl, fun j xs hx => ?_⟩
  obtain ⟨g, off, u, hg, hcell, hr⟩ := hc j xs hx
  exact ⟨g, off, u, hg, (hb.cell (World.block_lt_of_cell? w _ hcell)).trans hcell, reads_below hr hb⟩

theorem OwnSS.reads {w : World} {base : Nat} {v : Value} {us : List Value} {xss : List (List Int)} (h : OwnSS w base v us xss) : ReadsSS w v xss := by
  have hl := h.len
  rcases h.row.2 with ⟨rfl, hn⟩ | ⟨g, cap, cur, rfl, _⟩
  · exact ⟨none, 0, by rw [hn], fun j xs hx => by rw [List.eq_nil_of_length_eq_zero hn] at hx; simp at hx⟩
  · refine ⟨some ⟨g, 0, none⟩, cap, rfl, fun j xs hx => ?_⟩
    have hj : j < xss.length := (List.getElem?_eq_some_iff.1 hx).1
    obtain ⟨u, hu, hc, ho⟩ := h.at hj
    have e : xss[j] = xs := (List.getElem?_eq_some_iff.1 hx).2
    exact ⟨g, 0, u, rfl, by rw [Nat.zero_add]; exact hc, by rw [← e]; exact reads_own ho⟩

theorem eqInt64SS (xss : List (List Int)) (v u : Value) (w : World) (hl : xss.length ≤ maxLen) (hx : ∀ xs ∈ xss, xs.length ≤ maxLen) (hv : ReadsSS w v xss) (hu : ReadsSS w u xss) :
    Calls Try.prog 29 #[v, u] w fun e w' => e = .returned (.bool true) ∧ Below w.heap.size w w' := by
  unfold maxLen at hl
  obtain ⟨ao, cap, rfl, hc⟩ := hv
  obtain ⟨bo, cap', rfl, hd⟩ := hu
  go_enter Try.func29, Try.ntmps29
  go_wp2
  go_loopw [5] (fun i wr => ∃ k : Nat, k ≤ xss.length ∧ i = .int .i64 k ∧ Below w.heap.size w wr) (fun i _ => xss.length - (intOf i).toNat)
  case atStart => exact ⟨0, Nat.zero_le _, rfl, Below.refl _ _⟩
  case round =>
    obtain ⟨k, hk, rfl, hb⟩ := hrel
    by_cases hlt : k < xss.length
    · obtain ⟨g, off, p, rfl, p0, rp⟩ := hc k xss[k] (by simp [hlt])
      obtain ⟨g', off', q, rfl, q0, rq⟩ := hd k xss[k] (by simp [hlt])
      have hxl := hx xss[k] (List.getElem_mem hlt)
      have pB := World.block_lt_of_cell? w _ p0
      have qB := World.block_lt_of_cell? w _ q0
      have sz := hb.size
      have p1 := (hb.cell pB).trans p0
      have q1 := (hb.cell qB).trans q0
      have pB' : g < wr.heap.size := by simp at pB; omega
      have qB' : g' < wr.heap.size := by simp at qB; omega
      have hlt' : (k : Int) < (xss.length : Int) := by omega
      have hk0 : (0 : Int) ≤ (k : Int) := by omega
      have he : ∀ W, Below wr.heap.size wr W → _ := fun W hW => eqInt64S xss[k] p q W hxl (reads_below (reads_below rp hb) hW) (reads_below (reads_below rq hb) hW)
      obtain ⟨pa, pn, pc, rfl⟩ : ∃ a n c, p = .slice a n c := by obtain ⟨a, c, rfl, _⟩ := rp; exact ⟨_, _, _, rfl⟩
      obtain ⟨qa, qn, qc, rfl⟩ : ∃ a n c, q = .slice a n c := by obtain ⟨a, c, rfl, _⟩ := rq; exact ⟨_, _, _, rfl⟩
      clear hc hd rp rq p0 q0
      go_wp2_with fail
      go_region_held3 (fun w' => w'.cell? ⟨g, off + k, none⟩ = some (.slice pa pn pc) ∧ w'.cell? ⟨g', off' + k, none⟩ = some (.slice qa qn qc)) (first | exact ⟨p1, q1⟩ | exact ⟨(hc4 _ _ pB').trans p1, (hc4 _ _ qB').trans q1⟩) (first
        | (go_at_call 22; refine (he _ (by go_grown)).mono ?_; rintro e w4 ⟨rfl, b4⟩; have M4 : Below wr.heap.size wr w4 := Below.trans (by go_grown) b4; obtain ⟨hc4, hf4⟩ := bcell M4))
      all_goals
        go_wp2
        go_roundw
        case rel => exact ⟨k + 1, by omega, by go_num, hb.trans (M4.mono sz)⟩
        case measure => simp [intOf]; omega
    · go_wp2
      go_ret
      exact ⟨rfl, hb⟩

end Go.Proofs.Ytmophdojojcpbaa
