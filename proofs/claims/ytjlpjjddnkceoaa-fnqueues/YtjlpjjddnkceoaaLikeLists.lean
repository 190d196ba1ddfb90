/-
  laws.likeLists: both hold the same lists.
-/
import Derived.Test.YtjlpjjddnkceoaaListsLaw
import Derived.Test.YtjlpjjddnkceoaaIntLaws
import Derived.Deep.RegionHeld3
namespace Go.Proofs.Ytjlpjjddnkceoaa
open Go.RowKit
set_option linter.unusedVariables false
set_option linter.unusedSimpArgs false
set_option maxHeartbeats 2000000

theorem likeLists (xss : List (List Int)) (v u : Value) (w : World) (hl : xss.length ≤ maxLen) (hx : ∀ xs ∈ xss, xs.length ≤ maxLen) (hv : ReadsSS w v xss) (hu : ReadsSS w u xss) :
    Calls Try.prog 26 #[v, u] w fun e w' => e = .returned (.bool true) ∧ Below w.heap.size w w' := by
  unfold maxLen at hl
  obtain ⟨ao, cap, rfl, hc⟩ := hv
  obtain ⟨bo, cap', rfl, hd⟩ := hu
  go_enter Try.func26, Try.ntmps26
  go_wp2
  go_loopw [5] (fun i wr => ∃ k : Nat, k ≤ xss.length ∧ i = .int .i64 k ∧ Below w.heap.size w wr) (fun i _ => xss.length - (intOf i).toNat)
  case atStart => exact ⟨0, Nat.zero_le _, rfl, Below.refl _ _⟩
  case round =>
    obtain ⟨k, hk, rfl, hb⟩ := hrel
    by_cases hlt : k < xss.length
    · obtain ⟨g, off, p, rfl, p0, rp⟩ := hc k xss[k] (by simp [hlt])
      obtain ⟨g', off', q, rfl, q0, rq⟩ := hd k xss[k] (by simp [hlt])
      have hxl := hx xss[k] (List.getElem_mem hlt)
      have pB := World.block_lt_of_cell? w _ p0
      have qB := World.block_lt_of_cell? w _ q0
      have sz := hb.size
      have p1 := (hb.cell pB).trans p0
      have q1 := (hb.cell qB).trans q0
      have pB' : g < wr.heap.size := by simp at pB; omega
      have qB' : g' < wr.heap.size := by simp at qB; omega
      have hlt' : (k : Int) < (xss.length : Int) := by omega
      have hk0 : (0 : Int) ≤ (k : Int) := by omega
      have he : ∀ W, Below wr.heap.size wr W → _ := fun W hW => likeInts xss[k] p q W hxl (reads_below (reads_below rp hb) hW) (reads_below (reads_below rq hb) hW)
      obtain ⟨pa, pn, pc, rfl⟩ : ∃ a n c, p = .slice a n c := by obtain ⟨a, c, rfl, _⟩ := rp; exact ⟨_, _, _, rfl⟩
      obtain ⟨qa, qn, qc, rfl⟩ : ∃ a n c, q = .slice a n c := by obtain ⟨a, c, rfl, _⟩ := rq; exact ⟨_, _, _, rfl⟩
      clear hc hd rp rq p0 q0
      go_wp2_with fail
      go_region_held3 (fun w' => w'.cell? ⟨g, off + k, none⟩ = some (.slice pa pn pc) ∧ w'.cell? ⟨g', off' + k, none⟩ = some (.slice qa qn qc)) (first | exact ⟨p1, q1⟩ | exact ⟨(hc4 _ _ pB').trans p1, (hc4 _ _ qB').trans q1⟩) (first
        | (go_at_call 19; refine (he _ (by go_grown)).mono ?_; rintro e w4 ⟨rfl, b4⟩; have M4 : Below wr.heap.size wr w4 := Below.trans (by go_grown) b4; obtain ⟨hc4, hf4⟩ := bcell M4))
      all_goals
        go_wp2
        go_roundw
        case rel => exact ⟨k + 1, by omega, by go_num, hb.trans (M4.mono sz)⟩
        case measure => simp [intOf]; omega
    · go_wp2
      go_ret
      exact ⟨rfl, hb⟩

end Go.Proofs.Ytjlpjjddnkceoaa
