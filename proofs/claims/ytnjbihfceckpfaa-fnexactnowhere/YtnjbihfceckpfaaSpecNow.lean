/-
  Chapter 11, the specification's side: Nowhere.
-/
import Derived.Test.YtnjbihfceckpfaaPlacesM
namespace Go.Proofs.Ytnjbihfceckpfaa
open Go.RowKit
set_option linter.unusedVariables false
set_option linter.unusedSimpArgs false
set_option maxHeartbeats 4000000
set_option maxRecDepth 20000

def selP (ps : List (List Stm)) (F : Stm → Int → Bool) (I : Nat → Nat → List Int) (E : List Int) (i k : Nat) : Bool := F ((ps.getD i []).getD k ⟨0, 0, 0⟩) (img (I i k) (E.getD i 0))
/-- What Nowhere, Tests answer: the places of which F says so. -/
def PlA (ps : List (List Stm)) (c : Int) (F : Stm → Int → Bool) (X : List Int) : Prop := (okB ps c = true → ∃ I E, FA ps c I E ∧ X = allPl (selP ps F I E) ps ps.length) ∧ (okB ps c = false → X = [])
def nowF (_ : Stm) (x : Int) : Bool := decide (x = 0)
def testF (s : Stm) (x : Int) : Bool := decide (s.k = 6) && bit x (s.x + 1).toNat

theorem plA_some (ps : List (List Stm)) (c : Int) (F : Stm → Int → Bool) : ∃ X, PlA ps c F X := by
  cases h : okB ps c with
  | false => exact ⟨[], by simp [h], fun _ => rfl⟩
  | true =>
    obtain ⟨I, E, hE⟩ := fa_some h
    exact ⟨_, fun _ => ⟨I, E, hE, rfl⟩, by simp [h]⟩

theorem plA_len {ps : List (List Stm)} {c : Int} {F : Stm → Int → Bool} {X : List Int} (h : PlA ps c F X) : ∃ n, X.length = 2 * n ∧ n ≤ 48 := by
  cases ho : okB ps c with
  | false => rw [h.2 ho]; exact ⟨0, rfl, by omega⟩
  | true =>
    obtain ⟨I, E, hI, rfl⟩ := h.1 ho
    obtain ⟨_, _, hp, h4⟩ := okB_parts ho
    obtain ⟨n, h1, h2⟩ := allPl_len (selP ps F I E) (fun i hi => (procOk_parts (hp i hi).1).2.1) ps.length (Nat.le_refl _)
    exact ⟨n, h1, by omega⟩

theorem OwnSS.kind {w w' : World} {base b : Nat} {v ov : Value} {us : List Value} {xss : List (List Int)} {Y : List Int} (h : OwnSS w base v us xss) (ho : OwnPl w b ov Y) (hg : w.grownBy w' ov.ownBlock) : OwnSS w' base v us xss := by
  obtain ⟨n, _, ho⟩ := ho.ex
  exact ⟨own_same h.row (fun k hk => hg.block k (h.row.lt k hk).2 (fun e => row_kind h.row ho (by decide) hk e.symm)),
    fun j u xs hj hx => own_same (h.each j u xs hj hx) (fun k hk => hg.block k ((h.each j u xs hj hx).lt k hk).2 (fun e => row_kind (h.each j u xs hj hx) ho (by decide) hk e.symm))⟩

theorem specNowhere (ps : List (List Stm)) (X : List Int) (hX : PlA ps 1 nowF X) (v : Value) (w : World) (hl : ps.length ≤ maxLen) (hp : ∀ p ∈ ps, p.length ≤ maxLen) (hv : ReadsP w v ps) :
    Calls Try.prog 25 #[.agg #[v]] w fun e w' => ∃ u, e = .returned u ∧ OwnPl w' w.heap.size u X ∧ Below w.heap.size w w' := by
  obtain ⟨ip, hip, hq0, hq1, hq2⟩ := info_parts infoPlace
  obtain ⟨W0, hW0⟩ : ∃ W0, (w.alloc (.cells #[v] 30)).alloc (.cells #[] 56) = W0 := ⟨_, rfl⟩
  have hb0 : Below w.heap.size w W0 := by rw [← hW0]; go_grown
  have hs0 : W0.heap.size = w.heap.size + 1 + 1 := by rw [← hW0]; simp
  have hsP : (w.alloc (.cells #[v] 30)).heap.size = w.heap.size + 1 := by simp
  have hP0 : W0.heap[w.heap.size]? = some (.cells #[v] 30 (0, 0)) := by
    rw [← hW0, old_block (by simp)]; exact heap_alloc_new w _
  have HO0 : Hid (OwnPl W0 (w.heap.size + 1) (.slice (some ⟨w.heap.size + 1, 0, none⟩) 0 0) []) := by
    have := made0P (w.alloc (.cells #[v] 30))
    rw [hW0, hsP] at this
    exact this
  obtain ⟨A, hA⟩ := factA_some ps 1
  have hff := specFacts ps 1 A hA v W0 hl hp (readsP_below hv hb0)
  have hc0 := (one_cell hP0).1
  go_enter Try.func25, Try.ntmps25
  go_wp2_with fail
  go_at_call 18
  refine hff.mono ?_
  rintro e w1 ⟨fv, us, rfl, oF, b1⟩
  have HO1 : Hid _ := HO0.out.below b1
  have HF1 : Hid _ := oF
  have HB1 : Hid (Below w.heap.size w w1) := hb0.trans (b1.mono hb0.size)
  obtain ⟨af, cf, hfv, _⟩ := oF.reads
  obtain ⟨n, hn⟩ : ∃ n, A.length = n := ⟨_, rfl⟩
  rw [hn] at hfv
  subst hfv
  have HP : Hid (okB ps 1 = true ∧ (∃ I E, FA ps 1 I E ∧ A = factL ps I E ∧ X = allPl (selP ps nowF I E) ps ps.length ∧ n = ps.length) ∨ (n = 0 ∧ X = [])) := by
    cases ho : okB ps 1 with
    | false => right; have := hA.2 ho; subst this; exact ⟨hn.symm, hX.2 ho⟩
    | true =>
      left
      obtain ⟨I, E, hI, e1⟩ := hX.1 ho
      obtain ⟨J, F, hJ, rfl⟩ := hA.1 ho
      obtain ⟨_, _, hcp, _⟩ := okB_parts ho
      refine ⟨rfl, J, F, hJ, rfl, ?_, by rw [← hn, factL_len]⟩
      rw [e1]
      exact allPl_congr _ (Nat.le_refl _) (fun j hj q hq => by unfold selP nowF; rw [hI.rows hcp hJ.inn hJ.ent hj hq])
  clear hW0 HO0 hff oF b1 hX hA hc0 hP0
  rcases HP.out with ⟨ho, I, E, hI, rfl, rfl, rfl⟩ | ⟨rfl, rfl⟩
  · obtain ⟨_, _, hcp, h4⟩ := okB_parts ho
    have h12 : ∀ i (hi : i < ps.length), ps[i].length ≤ 12 := fun i hi => (procOk_parts (hcp i hi).1).2.1
    have hlenb := fun i (hi : i ≤ ps.length) => allPl_len (selP ps nowF I E) h12 i hi
    have hrowb := fun i k => rowPl_len (selP ps nowF I E) i k
    clear HP
    go_wp2_with fail
    go_loopw [3, 5] (fun ov iv wr => ∃ i : Nat, i ≤ ps.length ∧ iv = .int .i64 i ∧ OwnPl wr (w.heap.size + 1) ov (allPl (selP ps nowF I E) ps i) ∧ OwnSS wr W0.heap.size (.slice af ps.length cf) us (factL ps I E) ∧ Below w.heap.size w wr) (fun _ iv _ => ps.length - (intOf iv).toNat)
    case atStart => exact ⟨0, Nat.zero_le _, rfl, HO1.out, HF1.out, HB1.out⟩
    case round =>
      obtain ⟨i, hi, rfl, hO, hF, hB⟩ := hrel
      have HO : Hid _ := hO
      have HF : Hid _ := hF
      have HB : Hid _ := hB
      clear HO1 HF1 HB1 hO hB
      by_cases hlt : i < ps.length
      · have hlt' : (i : Int) < (ps.length : Int) := by omega
        have h12i := h12 i hlt
        have hsz : ps.getD i [] = ps[i] := by simp [List.getD, hlt]
        go_wp2_with fail
        go_loopw [3, 6] (fun ov kv wr => ∃ k : Nat, k ≤ ps[i].length ∧ kv = .int .i64 k ∧ OwnPl wr (w.heap.size + 1) ov (allPl (selP ps nowF I E) ps i ++ rowPl (selP ps nowF I E) i k) ∧ OwnSS wr W0.heap.size (.slice af ps.length cf) us (factL ps I E) ∧ Below w.heap.size w wr) (fun _ kv _ => ps[i].length - (intOf kv).toNat)
        case atStart => exact ⟨0, Nat.zero_le _, rfl, by unfold rowPl; rw [List.append_nil]; exact HO.out, HF.out, HB.out⟩
        case round =>
          obtain ⟨k, hk, rfl, hO, hF, hB⟩ := hrel
          obtain ⟨a9, c9, e9, hrd⟩ := hF.reads
          rw [factL_len] at e9
          cases e9
          obtain ⟨g4, p4, v4, rfl, hc4, hR4⟩ := hrd i (rowF I E i ps[i].length) (factL_get hlt)
          obtain ⟨a5, c5, hv4, hcx⟩ := hR4
          rw [ints_length, rowF_len] at hv4
          subst hv4
          have HOk : Hid _ := hO
          have HFk : Hid _ := hF
          have HBk : Hid _ := hB
          clear HO HF HB hO hF hB hrd
          by_cases hkl : k < ps[i].length
          · have hkl' : (k : Int) < (ps[i].length : Int) := by omega
            obtain ⟨g5, p5, rfl, hc5⟩ := hcx k (.int .i64 (img (I i k) (E.getD i 0))) (by simp [ints, rowF, hkl])
            have hPk : selP ps nowF I E i k = decide (img (I i k) (E.getD i 0) = 0) := rfl
            have hstep : rowPl (selP ps nowF I E) i (k + 1) = rowPl (selP ps nowF I E) i k ++ (if selP ps nowF I E i k then [(i : Int), (k : Int)] else []) := rfl
            generalize img (I i k) (E.getD i 0) = x at *
            by_cases hx0 : x = 0
            · subst hx0
              have hP1 : selP ps nowF I E i k = true := by rw [hPk]; rfl
              rw [if_pos hP1] at hstep
              obtain ⟨m, hm, hown⟩ := HOk.out.ex
              obtain ⟨m1, q1, q2⟩ := hlenb i (by omega)
              obtain ⟨m2, q3, q4⟩ := hrowb i k
              have hmb : m ≤ 1000 := by rw [List.length_append] at hm; omega
              have HNB : Hid _ := heap_alloc_new wr (.cells #[.int .i64 (i : Int), .int .i64 (k : Int)] 56)
              have hzz : w.heap.size + 1 ≤ wr.heap.size := by
                rcases HFk.out.row.2 with ⟨e, _⟩ | ⟨g', c', cur, e, hb', hg', _⟩
                · simp at e
                · have := (Array.getElem?_eq_some_iff.1 hg').1
                  omega
              have HST : Hid _ := hstep
              have HMB : Hid _ := hm
              clear hstep hm hP1 hPk
              have HAL : Hid _ := hown.alloc (.cells #[.int .i64 (i : Int), .int .i64 (k : Int)] 56)
              have bA : Below wr.heap.size wr (wr.alloc (.cells #[.int .i64 (i : Int), .int .i64 (k : Int)] 56)) := by go_grown
              have HFA : Hid _ := HFk.out.below bA
              have HOA : Hid _ := HOk.out.below bA
              have HBA : Hid (Below w.heap.size w (wr.alloc (.cells #[.int .i64 (i : Int), .int .i64 (k : Int)] 56))) := HBk.out.trans (bA.mono HBk.out.size)
              have hm1 : m + 1 ≤ maxLen := by unfold maxLen; omega
              have hm2 : (m + 1) * 16 ≤ 140737488355328 := by omega
              have hm3 : w.heap.size + 1 ≤ (wr.alloc (.cells #[.int .i64 (i : Int), .int .i64 (k : Int)] 56)).heap.size := by have := bA.size; omega
              have hnews := World.news_of_block HNB.out
              have HNW : Hid _ := hnews
              clear hnews
              go_wp2_with (first
                | (at_builtin; refine wpList_append_own _ rfl (.tmp 33) (.tmp 37) 43 rfl (w.heap.size + 1) 56 ip (.agg #[.int .i64 0, .int .i64 0]) 2 16 Try.underlying43 hip hq0 hq1 hq2 rfl (by decide) u3 m _ rfl HAL.out ⟨wr.heap.size, 0, none⟩ 1 1 [.int .i64 (i : Int), .int .i64 (k : Int)] rfl rfl HNW.out (two_one i k) hm1 hm2 hm3 ?_; intro v7 w7 own7 grow7 _; refine stop_of ?_))
              unfold Stop
              have S7 : Hid _ := OwnPl.app HMB.out own7
              have F7 : Hid _ := OwnSS.kind HFA.out HOA.out grow7
              have B7 : Hid (Below w.heap.size w w7) := HBA.out.grown grow7 HBA.out.size (fun q hq => by have := (hown.lt q hq).1; omega)
              clear own7 grow7
              go_wp2_with fail
              go_roundw
              case rel => exact ⟨k + 1, by omega, by go_num, by rw [HST.out, ← List.append_assoc]; exact S7.out, F7.out, B7.out⟩
              case measure => simp [intOf]; omega
            · have hP1 : selP ps nowF I E i k = false := by rw [hPk]; simp [hx0]
              rw [if_neg (by rw [hP1]; simp), List.append_nil] at hstep
              have HST : Hid _ := hstep
              clear hstep hP1 hPk
              go_wp2_with fail
              go_roundw
              case rel => exact ⟨k + 1, by omega, by go_num, by rw [HST.out]; exact HOk.out, HFk.out, HBk.out⟩
              case measure => simp [intOf]; omega
          · have hkk : k = ps[i].length := by omega
            subst hkk
            go_wp2_with fail
            go_roundw
            case rel => exact ⟨i + 1, by omega, by go_num, by unfold allPl; rw [hsz]; exact HOk.out, HFk.out, HBk.out⟩
            case measure => simp [intOf]; omega
      · have hii : i = ps.length := by omega
        subst hii
        go_wp2_with fail
        go_ret
        exact ⟨_, rfl, HO.out.mono (by omega), HB.out⟩
  · clear HP
    go_wp2_with fail
    refine wp_loop_rounds 1 ?_
    rw [rounds_succ]
    go_wp2_with fail
    go_ret
    exact ⟨_, rfl, HO1.out.mono (by omega), HB1.out⟩

end Go.Proofs.Ytnjbihfceckpfaa
