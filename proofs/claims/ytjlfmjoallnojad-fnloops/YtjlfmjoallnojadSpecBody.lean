/-
  spec.Body.
-/
import Derived.Test.YtjlfmjoallnojadBodyM
import Derived.Test.YtjlfmjoallnojadSpecLoops
import Derived.Test.YtjlfmjoallnojadSpecReached
import Derived.Test.YtjlfmjoallnojadQueueS
namespace Go.Proofs.Ytjlfmjoallnojad
open Go.RowKit
set_option linter.unusedVariables false
set_option linter.unusedSimpArgs false
set_option maxHeartbeats 8000000

theorem loopsAns_pair {ss : List Stm} {xs : List Int} (h : xs ∈ loopsAns ss) : ∃ x y, xs = [x, y] := by
  unfold loopsAns at h
  split at h
  · obtain ⟨j, y, _, rfl, _⟩ := loopsTo_mem h
    exact ⟨_, _, rfl⟩
  · simp at h

theorem set_lt' {w : World} {B : Nat} {t : TypeId} {cs : Array Value} {f : Nat × Nat} (h : w.heap[B]? = some (.cells cs t f)) : B + 1 ≤ w.heap.size := (Array.getElem?_eq_some_iff.1 h).1

theorem hasS_at {ss : List Stm} (hp : procOk ss = true) {i : Nat} (hi : i < ss.length) : hasS ss (i : Int) = true := by
  unfold hasS wiB
  rw [hp]
  simp
  omega

theorem specBody (ss : List Stm) (f g : Int) (A : List Int) (h1 : [f, g] ∈ loopsAns ss → IsBody ss f g A) (h0 : [f, g] ∉ loopsAns ss → A = []) (v : Value) (w : World) (hl : ss.length ≤ maxLen) (hv : Reads3 w v ss) :
    Calls Try.prog 9 #[.agg #[v], .int .i64 f, .int .i64 g] w fun e w' => ∃ u, e = .returned u ∧ w'.ownsRow w.heap.size 2 1 u A.length (ints A) ∧ Below w.heap.size w w' := by
  obtain ⟨i0, hi, hz0, hz1, hz2⟩ := info_parts infoInt
  have hb0 : Below w.heap.size w (w.alloc (.cells #[v] 26)) := by go_grown
  have he := specLoops ss v _ hl (reads3_below hv hb0)
  have H0 := heap_alloc_new w (.cells #[v] 26)
  have s0 : (w.alloc (.cells #[v] 26)).heap.size = w.heap.size + 1 := by simp
  have hln := loopsAns_length ss
  go_enter Try.func9, Try.ntmps9
  go_wp2_with fail
  go_at_call 11
  refine he.mono ?_
  rintro e w2 ⟨u, us, rfl, o2, b2⟩
  have L2 := hb0.trans (b2.mono hb0.size)
  have B2 := (b2.block w.heap.size (by omega)).trans H0
  have R2 := o2.reads
  clear he o2 b2
  generalize hll : loopsAns ss = xss at *
  obtain ⟨ao, cap, rfl, hc⟩ := R2
  have HC : Hid (∀ j xs, xss[j]? = some xs → ∃ g off u, ao = some ⟨g, off, none⟩ ∧ w2.cell? ⟨g, off + j, none⟩ = some u ∧ Reads w2 u (ints xs)) := hc
  clear hc
  have HP : Hid (∀ xs ∈ xss, ∃ x y, xs = [x, y]) := fun xs h => loopsAns_pair (hll ▸ h)
  have HLL : Hid (loopsAns ss = xss) := hll
  clear hll
  go_wp2_with fail
  go_loopw [8, 9] (fun fv iv wr => ∃ k : Nat, k ≤ xss.length ∧ iv = .int .i64 k ∧ fv = .bool (decide ([f, g] ∈ xss.take k)) ∧ wr = w2) (fun _ iv _ => xss.length - (intOf iv).toNat)
  case atStart => exact ⟨0, Nat.zero_le _, rfl, by simp, rfl⟩
  case round =>
    obtain ⟨k, hk, rfl, rfl, rfl⟩ := hrel
    by_cases hlt : k < xss.length
    · have hlt' : (k : Int) < (xss.length : Int) := by omega
      obtain ⟨x, y, hxy⟩ := HP.out _ (List.getElem_mem hlt)
      obtain ⟨q, off, u, rfl, cu, ru⟩ := HC.out k [x, y] (by rw [List.getElem?_eq_getElem hlt, hxy])
      have hst : Hid (decide ([f, g] ∈ xss.take (k + 1)) = (decide ([f, g] ∈ xss.take k) || (decide (x = f) && decide (y = g)))) := by
        show decide ([f, g] ∈ xss.take (k + 1)) = _
        rw [Bool.eq_iff_iff, List.take_succ_eq_append_getElem hlt, hxy]
        simp only [List.mem_append, List.mem_singleton, List.cons.injEq, and_true, decide_eq_true_eq, Bool.or_eq_true, Bool.and_eq_true]
        constructor
        · rintro (h | ⟨rfl, rfl⟩)
          · exact .inl h
          · exact .inr ⟨rfl, rfl⟩
        · rintro (h | ⟨rfl, rfl⟩)
          · exact .inl h
          · exact .inr ⟨rfl, rfl⟩
      obtain ⟨ua, uc, rfl, hcu⟩ := ru
      obtain ⟨q1, o1, rfl, c0⟩ := hcu 0 (.int .i64 x) rfl
      obtain ⟨q2, o2, e2, c1⟩ := hcu 1 (.int .i64 y) rfl
      obtain ⟨rfl, rfl⟩ : q1 = q2 ∧ o1 = o2 := by simpa using e2
      rw [Nat.add_zero] at c0
      replace cu : wr.cell? ⟨q, off + k, none⟩ = some (.slice (some ⟨q1, o1, none⟩) 2 uc) := cu
      clear hcu e2 hxy
      generalize decide ([f, g] ∈ xss.take k) = fd at *
      cases fd
      · by_cases hx : x = f
        · subst hx
          by_cases hy : y = g
          · subst hy
            have HV : Hid (decide ([x, y] ∈ xss.take (k + 1)) = true) := hst.out.trans (by simp)
            clear hst
            go_wp2
            go_roundw
            case rel => exact ⟨k + 1, by omega, by go_num, by rw [HV.out], trivial⟩
            case measure => simp [intOf]; omega
          · have hy' : (y == g) = false := by simpa using hy
            have HV : Hid (decide ([x, g] ∈ xss.take (k + 1)) = false) := hst.out.trans (by simp [hy])
            clear hst
            go_wp2
            go_roundw
            case rel => exact ⟨k + 1, by omega, by go_num, by rw [HV.out], trivial⟩
            case measure => simp [intOf]; omega
        · have hx' : (x == f) = false := by simpa using hx
          have HV : Hid (decide ([f, g] ∈ xss.take (k + 1)) = false) := hst.out.trans (by simp [hx])
          clear hst
          go_wp2
          go_roundw
          case rel => exact ⟨k + 1, by omega, by go_num, by rw [HV.out], trivial⟩
          case measure => simp [intOf]; omega
      · have HV : Hid (decide ([f, g] ∈ xss.take (k + 1)) = true) := hst.out.trans (by simp)
        clear hst
        go_wp2
        go_roundw
        case rel => exact ⟨k + 1, by omega, by go_num, by rw [HV.out], trivial⟩
        case measure => simp [intOf]; omega
    · have hkk : k = xss.length := by omega
      subst hkk
      rw [List.take_length]
      by_cases hok : [f, g] ∈ xss
      case neg =>
        rw [decide_eq_false hok]
        obtain rfl := h0 hok
        go_wp2
        go_ret
        exact ⟨_, rfl, own_mono (made0 wr) L2.size, L2.alloc L2.size _⟩
      rw [decide_eq_true hok]
      have hA := h1 hok
      obtain ⟨hp, f', g', rfl, rfl, hf, hg⟩ := loop_parts (HLL.out ▸ hok)
      have h12 := (procOk_parts hp).2.1
      obtain ⟨wz, hwz⟩ : ∃ x, x = wr := ⟨_, rfl⟩
      subst hwz
      have zw : w.heap.size + 1 ≤ wz.heap.size := set_lt' B2
      have z1 : (wz.alloc (.cells #[.int .i64 (g' : Int)] 2)).heap.size = wz.heap.size + 1 := by simp
      have m0 : ((wz.alloc (.cells #[.int .i64 (g' : Int)] 2)).alloc (.cells #[.int .i64 (f' : Int)] 2)).ownsRow (w.heap.size + 1) 2 1 (.slice (some ⟨wz.heap.size, 0, none⟩) 1 1) 1 (ints [(g' : Int)]) := (made1_at rfl zw g').alloc _
      have q0 : Queue ((wz.alloc (.cells #[.int .i64 (g' : Int)] 2)).alloc (.cells #[.int .i64 (f' : Int)] 2)) (w.heap.size + 1) (.slice (some ⟨wz.heap.size + 1, 0, none⟩) 1 1) [(f' : Int)] := queue_own (xs := [(f' : Int)]) (made1_at z1 (by omega) f')
      have L0 : Below w.heap.size w ((wz.alloc (.cells #[.int .i64 (g' : Int)] 2)).alloc (.cells #[.int .i64 (f' : Int)] 2)) := (L2.alloc L2.size _).alloc (by rw [z1]; omega) _
      have X0 : ((wz.alloc (.cells #[.int .i64 (g' : Int)] 2)).alloc (.cells #[.int .i64 (f' : Int)] 2)).heap[w.heap.size]? = some (.cells #[v] 26 (0, 0)) := by
        rw [old_block (by rw [z1]; omega), old_block (by omega)]; exact B2
      clear HC HP HLL hok h1 h0
      go_wp2_with fail
      go_loopw [10, 11] (fun o t wr => ∃ (out todo : List Int) (g cap : Nat), o = .slice (some ⟨g, 0, none⟩) out.length cap ∧ wr.ownsRow (w.heap.size + 1) 2 1 (.slice (some ⟨g, 0, none⟩) out.length cap) out.length (ints out) ∧ Queue wr (w.heap.size + 1) t todo ∧
          (∀ k, t.ownBlock = some k → k ≠ g) ∧ BdInv ss f' g' out todo ∧ Below w.heap.size w wr ∧ wr.heap[w.heap.size]? = some (.cells #[v] 26 (0, 0))) (fun o t _ => 13 * (12 - lenOf o) + lenOf t)
      case atStart => exact ⟨[(g' : Int)], [(f' : Int)], wz.heap.size, 1, rfl, m0, q0, fun k hk => by simp [Value.ownBlock] at hk; omega, BdInv.first hf, L0, X0⟩
      case round =>
        obtain ⟨out, todo, g, cap, rfl, hown, hq, hne, hR, hL, hX⟩ := hrel
        clear q0 m0 L0 X0
        have hol := hR.outLen hp hf hg
        have htl := hR.len
        have hbx : w.heap.size < wr.heap.size := (Array.getElem?_eq_some_iff.1 hX).1
        cases todo with
        | nil =>
          have he := isBody_unique hA hR.done
          obtain ⟨gq, offq, capq, rfl, _⟩ := hq
          subst he
          go_wp2
          go_ret
          exact ⟨_, rfl, own_mono hown (by omega), hL⟩
        | cons x todo =>
          obtain ⟨i, rfl, hil, _⟩ := hR.todoB x (by simp)
          obtain ⟨gq, offq, capq, hgq, _⟩ := id hq
          obtain ⟨t1, t2, t3, t4⟩ := (hgq ▸ hq : Queue wr (w.heap.size + 1) (.slice (some ⟨gq, offq, none⟩) (todo.length + 1) capq) ((i : Int) :: todo)).tail
          subst hgq
          have hgne : gq ≠ g := hne gq rfl
          obtain ⟨a1, c1, hcase, qT, qB⟩ : ∃ a1 c1, ((capq = 1 ∧ a1 = some ⟨gq, offq, none⟩ ∧ c1 = 0) ∨ (¬ capq = 1 ∧ a1 = some ⟨gq, offq + 1, none⟩ ∧ c1 = capq - 1)) ∧ Queue wr (w.heap.size + 1) (.slice a1 todo.length c1) todo ∧ (Value.slice a1 todo.length c1).ownBlock = some gq := by
            by_cases hc1 : capq = 1
            · have hq0 : todo.length = 0 := by omega
              refine ⟨_, _, .inl ⟨hc1, rfl, rfl⟩, ?_, rfl⟩
              rw [hq0]
              exact t3 hc1
            · exact ⟨_, _, .inr ⟨hc1, rfl, rfl⟩, t4, rfl⟩
          have hlen0 : (0 : Int) < ((((i : Int) :: todo).length : Nat) : Int) := by simp only [List.length_cons]; omega
          have hlen1 : (1 : Int) ≤ ((((i : Int) :: todo).length : Nat) : Int) := by simp only [List.length_cons]; omega
          have hz3 : ((i : Int) :: todo).length - 1 = todo.length := by simp
          have hcap : ((i : Int) :: todo).length ≤ capq := by simpa using t2
          have htl' : todo.length + 1 ≤ 145 := by simp at htl; omega
          obtain ⟨M, hM⟩ : ∃ M, ((i : Int) :: todo).length = M := ⟨_, rfl⟩
          have HM : Hid _ := hM
          have hM25 : M ≤ 145 := by rw [← hM]; simp; omega
          rw [hM] at hlen0 hlen1 hz3 hcap
          rw [hM]
          have hh := l1Has out i (.slice (some ⟨g, 0, none⟩) out.length cap) wr (by unfold maxLen; omega) (reads_own hown)
          rw [hasI_mem] at hh
          have HT : Hid (Queue wr (w.heap.size + 1) (.slice a1 todo.length c1) todo) := qT
          have HX : Hid (wr.heap[w.heap.size]? = some (.cells #[v] 26 (0, 0))) := hX
          have HMT : Hid (M = todo.length + 1) := by
            show M = todo.length + 1
            rw [← hM]; simp
          clear t3 t4 hM qT hq hX
          rcases hcase with ⟨hc1, rfl, rfl⟩ | ⟨hc1, rfl, rfl⟩
          all_goals
            by_cases hin : (i : Int) ∈ out
            · rw [decide_eq_true hin] at hh
              have hsk : Hid (BdInv ss f' g' out todo) := hR.skip hin
              clear hR hin
              go_wp2_with fail
              go_at_call 27
              refine hh.mono ?_
              rintro e w2 ⟨rfl, b2⟩
              clear hh
              have hown2 := own_kept hown b2
              have hq2 : Hid (Queue w2 (w.heap.size + 1) _ todo) := HT.out.kept (grown_of_below b2 none) (by simp)
              have hX2 := (b2.block w.heap.size hbx).trans HX.out
              have hL2 := hL.trans (b2.mono hL.size)
              go_wp2
              go_roundw
              case rel => exact ⟨out, todo, g, cap, rfl, hown2, hq2.out, fun k hk => by simp [Value.ownBlock] at hk; omega, hsk.out, hL2, hX2⟩
              case measure => have := HMT.out; simp only [lenOf]; omega
            · rw [decide_eq_false hin] at hh
              obtain ⟨Bf, hBf⟩ : ∃ Bf, beforeAns ss i = Bf := ⟨_, rfl⟩
              have hBl : Bf.length ≤ 12 := hBf ▸ beforeAns_length ss i
              have hBm : ∀ x, x ∈ Bf ↔ ∃ j : Nat, j < ss.length ∧ x = (j : Int) ∧ (i : Int) ∈ nx ss j := fun x => by
                rw [← hBf]
                unfold beforeAns
                rw [if_pos (hasS_at hp hil)]
                exact mem_befN ss i ss.length x
              have hst : Hid (BdInv ss f' g' (ins i out) (todo ++ Bf)) := hR.step hp hin hBm hBl
              have hil2 := ins_len_new (i : Int) out hin
              have HI : Hid _ := hil2
              have hio : (ins (i : Int) out).length ≤ 12 := hst.out.outLen hp hf hg
              clear hR hin hil2 hBm
              go_wp2_with fail
              go_at_call 27
              refine hh.mono ?_
              rintro e w2 ⟨rfl, b2⟩
              clear hh
              have sb2 := b2.size
              have hown2 := own_kept hown b2
              have hq2 : Hid (Queue w2 (w.heap.size + 1) _ todo) := HT.out.kept (grown_of_below b2 none) (by simp)
              have hX2 := (b2.block w.heap.size hbx).trans HX.out
              have hL2 := hL.trans (b2.mono hL.size)
              have hput := l1PutAt out i g cap (w.heap.size + 1) w2 (by omega) (by omega) hown2
              go_wp2_with fail
              go_at_call 28
              refine hput.mono ?_
              rintro e w3 ⟨g3, c3, rfl, own3, b3, hg3⟩
              clear hput
              have sb3 := b3.size
              have hq3 : Hid (Queue w3 (w.heap.size + 1) _ todo) := hq2.out.kept (grown_of_below b3 none) (by simp)
              have hX3 := (b3.block w.heap.size (by omega)).trans hX2
              have hL3 := hL2.trans (b3.mono hL2.size)
              have hnx := specBeforeAt ss i v w3 hl (reads3_below hv hL3)
              rw [hBf] at hnx
              obtain ⟨cx3, _⟩ := one_cell hX3
              have hg3q : g3 ≠ gq := by
                rcases hg3 with h | h
                · omega
                · have := (HT.out.lt gq rfl).2; omega
              go_wp2_with fail
              go_at_call 29
              refine hnx.mono ?_
              rintro e w4 ⟨g4, c4, rfl, own4, b4⟩
              clear hnx cx3
              have sb4 := b4.size
              have hq4 : Hid (Queue w4 (w.heap.size + 1) _ todo) := hq3.out.kept (grown_of_below b4 none) (by simp)
              have hX4 := (b4.block w.heap.size (by omega)).trans hX3
              have hL4 := hL3.trans (b4.mono hL3.size)
              have own5 := own_kept own3 b4
              have hcs : Hid (∀ j u, (ints Bf)[j]? = some u → w4.cell? ((⟨g4, 0, none⟩ : Addr).add j) = some u) := own4.cells rfl
              have HX4 : Hid (w4.heap[w.heap.size]? = some (.cells #[v] 26 (0, 0))) := hX4
              clear hX4 hX3 hX2
              go_wp2_with (first
                | (at_builtin; refine wpList_append_queue rfl (.tmp 63) (.tmp 66) 29 rfl i0 Try.underlying29 hi hz0 hz1 hz2 rfl hq4.out ⟨g4, 0, none⟩ Bf.length _ Bf rfl rfl hcs.out (by omega) (by omega) ?_; intro v7 w7 q7 gr7 k7)
                | go_in)
              replace gr7 : w4.grownBy w7 (some gq) := gr7
              replace k7 : ∀ k, v7.ownBlock = some k → some gq = some k ∨ w4.heap.size ≤ k := k7
              have hX7 := (gr7.block w.heap.size (by omega) (fun e => by have := (hq4.out.lt gq rfl).1; simp at e; omega)).trans HX4.out
              have hL7 : Below w.heap.size w w7 := hL4.grown gr7 hL4.size (fun k e => by have := (hq4.out.lt gq rfl).1; simp at e; omega)
              have own7 := own_grown own5 gr7 (fun k hk e => by simp [Value.ownBlock] at hk; simp at e; omega)
              have hv7 : ∃ a7 c7, v7 = .slice a7 (todo ++ Bf).length c7 := by
                obtain ⟨x1, x2, x3, e, _⟩ := q7
                exact ⟨_, _, e⟩
              obtain ⟨a7, c7, rfl⟩ := hv7
              go_roundw
              case rel =>
                refine ⟨ins i out, todo ++ Bf, g3, c3, rfl, own7, q7, fun k hk => ?_, hst.out, hL7, hX7⟩
                rcases k7 k hk with h | h
                · simp at h; omega
                · have := (own5.lt g3 rfl).2; omega
              case measure =>
                have := HI.out
                have := HMT.out
                simp only [lenOf, List.length_append]
                omega

end Go.Proofs.Ytjlfmjoallnojad
