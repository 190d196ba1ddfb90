/-
  The law FnWays: ways are ways, each once and in order, and there is one just where one comes to.
-/
import Derived.Test.YtjlfmjoallnojabDrawWayOk
import Derived.Test.YtjlfmjoallnojabWayImpl
import Derived.Test.YtjlfmjoallnojabSpecWays
import Derived.Test.YtjlfmjoallnojabReachedBoth
import Derived.Test.YtjlfmjoallnojabLikeD
import Derived.Test.YtjlfmjoallnojabLikeLists
import Derived.Test.YtjlfmjoallnojabOpenCode
import Derived.Deep.RegionHeld3
namespace Go.Proofs.Ytjlfmjoallnojab
open Go.ChangeShapes Go.WideShapes Go.ChangeAt Go.RowKit
set_option linter.unusedVariables false
set_option linter.unusedSimpArgs false

/-- What the law holds between its steps. -/
structure WwS (X base : Nat) (u : Value) (ss : List Stm) (lv : Value) (us : List Value) (LL : List (List Int)) (w wr : World) : Prop where
  box : wr.heap[X]? = some (.cells #[u] 26 (0, 0))
  rd : Reads3 wr u ss
  l : OwnSS wr base lv us LL
  bl : Below w.heap.size w wr

theorem WwS.step {X base : Nat} {u : Value} {ss : List Stm} {lv : Value} {us : List Value} {LL : List (List Int)} {w wr wr' : World} (h : WwS X base u ss lv us LL w wr) (hb : Below wr.heap.size wr wr') : WwS X base u ss lv us LL w wr' :=
  ⟨(hb.block X (Array.getElem?_eq_some_iff.1 h.box).1).trans h.box, reads3_below h.rd hb, h.l.below hb, h.bl.trans (hb.mono h.bl.size)⟩

theorem any_memW (xs : List Int) (n : Int) : xs.any (fun x => decide (x = n)) = decide (n ∈ xs) := by
  rw [Bool.eq_iff_iff]
  simp

theorem own_cap {w : World} {base : Nat} {e : TypeId} {u : Value} {n : Nat} {xs : List Value} (h : w.ownsRow base e 1 u n xs) : ∀ a m c, u = .slice a m c → m ≤ c := by
  intro a m c e
  rcases h.2 with ⟨h1, _⟩ | ⟨b, cap, d, h1, _, _, h2, _⟩
  · rw [h1] at e
    simp at e
    omega
  · rw [h1] at e
    simp at e
    omega

set_option maxRecDepth 20000 in
set_option maxHeartbeats 16000000 in
theorem walkFnWays (bs : List Int) (v : Value) (w : World) (hl : bs.length ≤ maxLen) (hv : Reads w v (bs.map (Value.int .u8))) :
    Calls Try.prog 3 #[v] w fun e w' => e = .returned (.bool true) ∧ Below w.heap.size w w' := by
  have hbig := lawBig bs v w hl hv
  by_cases hb : (4096 : Int) < (bs.length : Int)
  · rw [decide_eq_true hb] at hbig
    go_enter Try.func3, Try.ntmps3
    go_wp2_with (go_at_call 4; refine hbig.mono ?_; rintro e w1 ⟨rfl, rfl⟩)
    go_ret
    exact ⟨rfl, Below.refl _ _⟩
  rw [decide_eq_false hb] at hbig
  go_enter Try.func3, Try.ntmps3
  go_wp2_with fail
  go_at_call 4
  refine hbig.mono ?_
  rintro e w1 ⟨rfl, rfl⟩
  clear hbig
  go_wp2_with fail
  go_at_call 5
  refine (drawWays bs v w (by omega) hv).mono ?_
  rintro e w1 ⟨u, ss, at0, most, rfl, h1, h7, ou, b1⟩
  have hsl : ss.length ≤ maxLen := by unfold maxLen; omega
  have L1 : Below w.heap.size w (w1.alloc (.cells #[u] 26)) := b1.alloc b1.size _
  have X1 := heap_alloc_new w1 (.cells #[u] 26)
  have r1 := reads3_own (ou.alloc (.cells #[u] 26))
  have z1 : (w1.alloc (.cells #[u] 26)).heap.size = w1.heap.size + 1 := by simp
  obtain ⟨ua, un, uc, hu⟩ := ownSlice ou
  have hun : un = ss.length := by
    have := reads3_own ou
    rw [hu] at this
    obtain ⟨_, _, e, _⟩ := this
    simp at e
    exact e.2.1
  subst hu
  subst hun
  obtain ⟨c1, f1⟩ := oneCell X1
  obtain ⟨R, hR1, hR2, hRl⟩ := reached_some ss
  obtain ⟨Sh, hSh⟩ := short_some ss at0
  have hiR := implReached ss R hR1 hR2
  have hiS := implShort ss at0 Sh hSh
  have hiw := implWays ss at0 most
  have hsw := specWays ss at0 most
  have hLn := waysAns_length ss at0 most
  have hgood := fun xs (h : xs ∈ waysAns ss at0 most) => way_good h
  have hord := ways_order ss at0 most
  have hfirst := fun x l (h : waysAns ss at0 most = x :: l) => ways_first h hSh
  have heach := fun xs (h : xs ∈ waysAns ss at0 most) => waysAns_each h
  have hsome := fun (e : most = 7) => (by subst e; exact ways_some (i := at0) h7 hR1 hR2 : 0 < (waysAns ss at0 most).length ↔ at0 ∈ R)
  have HR : Hid (∀ x, x ∈ R ↔ procOk ss = true ∧ ∃ i : Nat, x = (i : Int) ∧ Rch ss (-1) i) := by
    intro x
    cases hp : procOk ss
    · rw [hR2 hp]; simp
    · rw [(hR1 hp).2]; simp
  have H1 : Hid _ := hgood
  have H2 : Hid _ := hord
  have H3 : Hid _ := hfirst
  have H4 : Hid _ := heach
  have H5 : Hid _ := hsome
  clear hgood hord hfirst heach hsome hR1 hR2
  go_wp2_with fail
  go_at_call 6
  refine (hiw _ _ hsl r1).mono ?_
  rintro e w2 ⟨lv, us, rfl, ol, _, b2⟩
  have D2 : WwS w1.heap.size (w1.heap.size + 1) (.slice ua ss.length uc) ss lv us (waysAns ss at0 most) w w2 := ⟨(b2.block w1.heap.size (by omega)).trans X1, reads3_below r1 b2, by rw [z1] at ol; exact ol, L1.trans (b2.mono L1.size)⟩
  clear c1 f1 X1 r1 hiw ol L1 b1 ou b2
  generalize hLL : waysAns ss at0 most = LL at *
  go_wp2_with fail
  go_at_call 7
  refine (drawWayOk bs v w2 (by omega) (reads_below hv D2.bl)).mono ?_
  rintro e w3 ⟨qu, wv, qs, ys, rfl, hq1, hq7, hy10, oq, oy, b3⟩
  have D3 := D2.step b3
  clear D2 b3 hv
  obtain ⟨qa, qn, qc, rfl⟩ := ownSlice oq
  have Q4 := heap_alloc_new w3 (.cells #[.slice qa qn qc] 26)
  have rq := reads3_own (oq.alloc (.cells #[.slice qa qn qc] 26))
  have ry := reads_own (oy.alloc (.cells #[.slice qa qn qc] 26))
  have hcy := own_cap oy
  have D4 := D3.step (wr' := w3.alloc (.cells #[.slice qa qn qc] 26)) (by go_grown)
  have hqs : qs.length ≤ maxLen := by unfold maxLen; omega
  have hym : ys.length ≤ maxLen := by unfold maxLen; omega
  have z4 : (w3.alloc (.cells #[.slice qa qn qc] 26)).heap.size = w3.heap.size + 1 := by simp
  clear D3 oq oy
  obtain ⟨c1, f1⟩ := oneCell D4.box
  obtain ⟨d1, e1⟩ := oneCell Q4
  have hX4 := (Array.getElem?_eq_some_iff.1 D4.box).1
  have hQ4 := (Array.getElem?_eq_some_iff.1 Q4).1
  have hiW := fun W (hW : Below (w3.alloc (.cells #[.slice qa qn qc] 26)).heap.size (w3.alloc (.cells #[.slice qa qn qc] 26)) W) => implWayOk qs ys (.slice qa qn qc) wv W hqs hym (reads3_below rq hW) (reads_below ry hW) hcy
  have hsW := fun W (hW : Below (w3.alloc (.cells #[.slice qa qn qc] 26)).heap.size (w3.alloc (.cells #[.slice qa qn qc] 26)) W) => specWayOk qs ys (.slice qa qn qc) wv W hqs hym (reads3_below rq hW) (reads_below ry hW)
  have hsw' := fun W (hW : Below (w3.alloc (.cells #[.slice qa qn qc] 26)).heap.size (w3.alloc (.cells #[.slice qa qn qc] 26)) W) => hsw (.slice ua ss.length uc) W hsl (D4.step hW).rd
  generalize wayAns qs ys = bq at hiW hsW
  have HD : Hid _ := D4
  clear hsw rq ry hcy D4 Q4
  go_wp2_with fail
  generalize w3.alloc (.cells #[.slice qa qn qc] 26) = wa at *
  refine wp_region_held_drew (S := fun w' => w'.cell? ⟨w1.heap.size, 0, none⟩ = some (.slice ua ss.length uc) ∧ w'.cell? ⟨w3.heap.size, 0, none⟩ = some (.slice qa qn qc)) (by kernel_rfl) ⟨c1, d1⟩ (fun hHeld => ?_)
  refine wpAnyH_take (i := 0) (oi := ?oi0) (v := lv) ?hi0 (by kernel_rfl) (by kernel_rfl) (by kernel_rfl) ?hq0 ?hy0 hHeld ?hr0
  case hi0 =>
    simp only [List.getElem?_toArray, List.getElem?_cons_succ, List.getElem?_cons_zero]
    rfl
  case hq0 => exact fun _ _ _ h => h
  case hy0 => exact Or.inl ⟨by kernel_rfl, fun w hSw => by go_simp⟩
  try simp only [Act.put, List.setIfInBounds_toArray, List.set_cons_zero, List.set_cons_succ]
  refine wpAnyH_take (i := 1) (oi := ?oi1) (v := .agg #[.slice ua ss.length uc]) ?hi1 (by kernel_rfl) (by kernel_rfl) (by kernel_rfl) ?hq1 ?hy1 hHeld ?hr1
  case hi1 =>
    simp only [List.getElem?_toArray, List.getElem?_cons_succ, List.getElem?_cons_zero]
    rfl
  case hq1 => exact fun _ _ _ h => h
  case hy1 => exact Or.inl ⟨by kernel_rfl, fun w hSw => by (obtain ⟨s1, s2⟩ := hSw; go_simp)⟩
  try simp only [Act.put, List.setIfInBounds_toArray, List.set_cons_zero, List.set_cons_succ]
  refine wpAnyH_take (i := 2) (oi := ?oi2) (v := .int .i64 at0) ?hi2 (by kernel_rfl) (by kernel_rfl) (by kernel_rfl) ?hq2 ?hy2 hHeld ?hr2
  case hi2 =>
    simp only [List.getElem?_toArray, List.getElem?_cons_succ, List.getElem?_cons_zero]
    rfl
  case hq2 => exact fun _ _ _ h => h
  case hy2 => exact Or.inl ⟨by kernel_rfl, fun w hSw => by go_simp⟩
  try simp only [Act.put, List.setIfInBounds_toArray, List.set_cons_zero, List.set_cons_succ]
  refine wpAnyH_take (i := 3) (oi := ?oi3) (v := .int .i64 most) ?hi3 (by kernel_rfl) (by kernel_rfl) (by kernel_rfl) ?hq3 ?hy3 hHeld ?hr3
  case hi3 =>
    simp only [List.getElem?_toArray, List.getElem?_cons_succ, List.getElem?_cons_zero]
    rfl
  case hq3 => exact fun _ _ _ h => h
  case hy3 => exact Or.inl ⟨by kernel_rfl, fun w hSw => by go_simp⟩
  try simp only [Act.put, List.setIfInBounds_toArray, List.set_cons_zero, List.set_cons_succ]
  refine wpAnyH_ready (rs := [4]) (by kernel_rfl) (by simp) ?_
  refine AllReadyH.cons (o := ?oo4) ?ho4 (fun K hK => ?_) AllReadyH.nil
  case ho4 =>
    simp only [List.getElem?_toArray, List.getElem?_cons_succ, List.getElem?_cons_zero]
    rfl
  go_simp
  go_at_call 9
  refine (hsw' _ (by go_grown)).mono ?_
  rintro e w5 ⟨sv, sus, rfl, osl, b5⟩
  have M5 : Below wa.heap.size wa w5 := Below.trans (by go_grown) b5
  obtain ⟨hc5, hf5⟩ := bcell M5
  go_wp2_with fail
  refine hK.out _ _ ⟨(hc5 _ _ hX4).trans c1, (hc5 _ _ hQ4).trans d1⟩ (fun hHeld => ?_)
  clear hK K
  try simp only [Act.put, List.setIfInBounds_toArray, List.set_cons_zero, List.set_cons_succ]
  refine wpAnyH_ready (rs := [5]) (by kernel_rfl) (by simp) ?_
  refine AllReadyH.cons (o := ?oo5) ?ho5 (fun K hK => ?_) AllReadyH.nil
  case ho5 =>
    simp only [List.getElem?_toArray, List.getElem?_cons_succ, List.getElem?_cons_zero]
    rfl
  go_simp
  go_at_call 8
  refine (likeLists LL _ _ w5 (by unfold maxLen; omega) (fun xs h => by have := H4.out xs h; unfold maxLen; omega) (HD.out.step M5).l.reads osl.reads).mono ?_
  rintro e w6 ⟨rfl, b6⟩
  have M6 : Below wa.heap.size wa w6 := M5.trans (b6.mono M5.size)
  obtain ⟨hc6, hf6⟩ := bcell M6
  go_wp2_with fail
  refine hK.out _ _ ⟨(hc6 _ _ hX4).trans c1, (hc6 _ _ hQ4).trans d1⟩ (fun hHeld => ?_)
  clear hK K
  try simp only [Act.put, List.setIfInBounds_toArray, List.set_cons_zero, List.set_cons_succ]
  refine wpAnyH_take (i := 6) (oi := ?oi6) (v := .bool false) ?hi6 (by kernel_rfl) (by kernel_rfl) (by kernel_rfl) ?hq6 ?hy6 hHeld ?hr6
  case hi6 =>
    simp only [List.getElem?_toArray, List.getElem?_cons_succ, List.getElem?_cons_zero]
    rfl
  case hq6 => exact fun _ _ _ h => h
  case hy6 => exact Or.inl ⟨by kernel_rfl, fun w hSw => by go_simp⟩
  try simp only [Act.put, List.setIfInBounds_toArray, List.set_cons_zero, List.set_cons_succ]
  refine wpAnyH_take (i := 7) (oi := ?oi7) (v := .bool false) ?hi7 (by kernel_rfl) (by kernel_rfl) (by kernel_rfl) ?hq7 ?hy7 hHeld ?hr7
  case hi7 =>
    simp only [List.getElem?_toArray, List.getElem?_cons_succ, List.getElem?_cons_zero]
    rfl
  case hq7 => exact fun _ _ _ h => h
  case hy7 => exact Or.inl ⟨by kernel_rfl, fun w hSw => by go_simp⟩
  try simp only [Act.put, List.setIfInBounds_toArray, List.set_cons_zero, List.set_cons_succ]
  refine wpAnyH_take (i := 8) (oi := ?oi8) (v := .agg #[.slice qa qn qc]) ?hi8 (by kernel_rfl) (by kernel_rfl) (by kernel_rfl) ?hq8 ?hy8 hHeld ?hr8
  case hi8 =>
    simp only [List.getElem?_toArray, List.getElem?_cons_succ, List.getElem?_cons_zero]
    rfl
  case hq8 => exact fun _ _ _ h => h
  case hy8 => exact Or.inl ⟨by kernel_rfl, fun w hSw => by (obtain ⟨s1, s2⟩ := hSw; go_simp)⟩
  try simp only [Act.put, List.setIfInBounds_toArray, List.set_cons_zero, List.set_cons_succ]
  refine wpAnyH_take (i := 9) (oi := ?oi9) (v := wv) ?hi9 (by kernel_rfl) (by kernel_rfl) (by kernel_rfl) ?hq9 ?hy9 hHeld ?hr9
  case hi9 =>
    simp only [List.getElem?_toArray, List.getElem?_cons_succ, List.getElem?_cons_zero]
    rfl
  case hq9 => exact fun _ _ _ h => h
  case hy9 => exact Or.inl ⟨by kernel_rfl, fun w hSw => by go_simp⟩
  try simp only [Act.put, List.setIfInBounds_toArray, List.set_cons_zero, List.set_cons_succ]
  refine wpAnyH_take (i := 11) (oi := ?oi11) (v := .agg #[.slice qa qn qc]) ?hi11 (by kernel_rfl) (by kernel_rfl) (by kernel_rfl) ?hq11 ?hy11 hHeld ?hr11
  case hi11 =>
    simp only [List.getElem?_toArray, List.getElem?_cons_succ, List.getElem?_cons_zero]
    rfl
  case hq11 => exact fun _ _ _ h => h
  case hy11 => exact Or.inl ⟨by kernel_rfl, fun w hSw => by (obtain ⟨s1, s2⟩ := hSw; go_simp)⟩
  try simp only [Act.put, List.setIfInBounds_toArray, List.set_cons_zero, List.set_cons_succ]
  refine wpAnyH_take (i := 12) (oi := ?oi12) (v := wv) ?hi12 (by kernel_rfl) (by kernel_rfl) (by kernel_rfl) ?hq12 ?hy12 hHeld ?hr12
  case hi12 =>
    simp only [List.getElem?_toArray, List.getElem?_cons_succ, List.getElem?_cons_zero]
    rfl
  case hq12 => exact fun _ _ _ h => h
  case hy12 => exact Or.inl ⟨by kernel_rfl, fun w hSw => by go_simp⟩
  try simp only [Act.put, List.setIfInBounds_toArray, List.set_cons_zero, List.set_cons_succ]
  refine wpAnyH_ready (rs := [10]) (by kernel_rfl) (by simp) ?_
  refine AllReadyH.cons (o := ?oo10) ?ho10 (fun K hK => ?_) AllReadyH.nil
  case ho10 =>
    simp only [List.getElem?_toArray, List.getElem?_cons_succ, List.getElem?_cons_zero]
    rfl
  go_simp
  go_at_call 10
  refine (hiW _ M6).mono ?_
  rintro e w7 ⟨rfl, b7⟩
  have M7 : Below wa.heap.size wa w7 := M6.trans (b7.mono M6.size)
  obtain ⟨hc7, hf7⟩ := bcell M7
  go_wp2_with fail
  refine hK.out _ _ ⟨(hc7 _ _ hX4).trans c1, (hc7 _ _ hQ4).trans d1⟩ (fun hHeld => ?_)
  clear hK K
  try simp only [Act.put, List.setIfInBounds_toArray, List.set_cons_zero, List.set_cons_succ]
  refine wpAnyH_ready (rs := [13]) (by kernel_rfl) (by simp) ?_
  refine AllReadyH.cons (o := ?oo13) ?ho13 (fun K hK => ?_) AllReadyH.nil
  case ho13 =>
    simp only [List.getElem?_toArray, List.getElem?_cons_succ, List.getElem?_cons_zero]
    rfl
  go_simp
  go_at_call 11
  refine (hsW _ M7).mono ?_
  rintro e w8 ⟨rfl, b8⟩
  have M8 : Below wa.heap.size wa w8 := M7.trans (b8.mono M7.size)
  obtain ⟨hc8, hf8⟩ := bcell M8
  go_wp2_with fail
  refine hK.out _ _ ⟨(hc8 _ _ hX4).trans c1, (hc8 _ _ hQ4).trans d1⟩ (fun hHeld => ?_)
  clear hK K
  try simp only [Act.put, List.setIfInBounds_toArray, List.set_cons_zero, List.set_cons_succ]
  refine wpAnyH_take (i := 14) (oi := ?oi14) (v := .bool false) ?hi14 (by kernel_rfl) (by kernel_rfl) (by kernel_rfl) ?hq14 ?hy14 hHeld ?hr14
  case hi14 =>
    simp only [List.getElem?_toArray, List.getElem?_cons_succ, List.getElem?_cons_zero]
    rfl
  case hq14 => exact fun _ _ _ h => h
  case hy14 => exact Or.inl ⟨by kernel_rfl, fun w hSw => by (cases bq <;> go_simp)⟩
  try simp only [Act.put, List.setIfInBounds_toArray, List.set_cons_zero, List.set_cons_succ]
  refine wpAnyH_take (i := 15) (oi := ?oi15) (v := .bool false) ?hi15 (by kernel_rfl) (by kernel_rfl) (by kernel_rfl) ?hq15 ?hy15 hHeld ?hr15
  case hi15 =>
    simp only [List.getElem?_toArray, List.getElem?_cons_succ, List.getElem?_cons_zero]
    rfl
  case hq15 => exact fun _ _ _ h => h
  case hy15 => exact Or.inl ⟨by kernel_rfl, fun w hSw => by go_simp⟩
  try simp only [Act.put, List.setIfInBounds_toArray, List.set_cons_zero, List.set_cons_succ]
  refine wpAnyH_done (by kernel_rfl) ?_ _
  have D8 := HD.out.step M8
  clear hHeld hc5 hc6 hc7 hc8 hf5 hf6 hf7 hf8 osl b5 b6 b7 b8 M5 M6 M7 M8 HD hiW hsW hsw' c1 f1 d1 e1 hX4 hQ4 z4 hqs hym hq1 hq7 hy10
  obtain ⟨la, lc, rfl⟩ : ∃ la lc, lv = .slice la LL.length lc := by
    obtain ⟨ao, cap, e, _⟩ := D8.l.reads
    exact ⟨ao, cap, e⟩
  go_wp2_with fail
  go_loopw [9] (fun i wr => ∃ k : Nat, k ≤ LL.length ∧ i = .int .i64 k ∧ WwS w1.heap.size (w1.heap.size + 1) (.slice ua ss.length uc) ss (.slice la LL.length lc) us LL w wr) (fun i _ => LL.length - (intOf i).toNat)
  case atStart => exact ⟨0, by omega, rfl, D8⟩
  case round =>
    obtain ⟨k, hk, rfl, D⟩ := hrel
    clear D8
    obtain ⟨wb, hwb⟩ : ∃ x, x = wr := ⟨_, rfl⟩
    subst wr
    by_cases hlt : k < LL.length
    · have hlt' : (k : Int) < (LL.length : Int) := by omega
      obtain ⟨gl, rfl⟩ : ∃ gl, la = some ⟨gl, 0, none⟩ := by
        rcases D.l.row.2 with ⟨h, e⟩ | ⟨b, c, d, h, _⟩
        · have := D.l.row.1
          have hu := D.l.len
          rw [e] at hu
          simp at hu
          omega
        · simp at h
          exact ⟨b, h.1⟩
      obtain ⟨hok, hla, hmo, hge⟩ := H1.out LL[k] (by simp)
      obtain ⟨uk, _, q0, ok0⟩ := D.l.at hlt
      have hcap := own_cap ok0
      have rk0 := reads_own ok0
      have hlm : LL[k].length ≤ maxLen := by have := H4.out LL[k] (by simp); unfold maxLen; omega
      have hWk := fun W (hW : Below wb.heap.size wb W) => implWayOk ss LL[k] (.slice ua ss.length uc) uk W hsl hlm (reads3_below D.rd hW) (reads_below rk0 hW) hcap
      rw [hok] at hWk
      obtain ⟨gk, ck, rfl⟩ : ∃ gk ck, uk = .slice (some ⟨gk, 0, none⟩) LL[k].length ck := by
        rcases ok0.2 with ⟨h, e⟩ | ⟨b, c, d, h, _⟩
        · have := ok0.1
          rw [e] at this
          simp [ints] at this
          omega
        · exact ⟨_, _, h⟩
      have q1 : wb.cell? ⟨gk, LL[k].length - 1, none⟩ = some (.int .i64 at0) := by
        rw [ok0.cellAt (LL[k].length - 1) (by omega), ← hla]
        simp [ints, lastI, List.getD, show LL[k].length - 1 < LL[k].length by omega]
      obtain ⟨c1, f1⟩ := oneCell D.box
      have hXl := (Array.getElem?_eq_some_iff.1 D.box).1
      have gB := World.block_lt_of_cell? wb _ q0
      have gB1 := World.block_lt_of_cell? wb _ q1
      by_cases hk0 : k = 0
      · subst hk0
        have HD : Hid _ := D
        clear D ok0 rk0 hcap hok hla
        generalize LL[0].length = n at *
        have hn1 : IntKind.i64.wrap ((n : Int) - 1) = (n : Int) - 1 := IntWalk.i64_in _ (by unfold maxLen at hlm; omega)
        have hn2 : (0 : Int) ≤ (n : Int) - 1 := by omega
        have hn3 : (n : Int) - 1 < (n : Int) := by omega
        have hn4 : ((n : Int) - 1).toNat = n - 1 := by omega
        have hn5 : decide (most < (n : Int)) = false := decide_eq_false (by omega)
        have hn6 : ¬ most < (n : Int) := by omega
        have hn8 : ¬ (n : Int) < 1 := by omega
        have hn9 : (1 : Int) ≤ (n : Int) := by omega
        go_wp2_with fail
        refine wp_region_held_drew (S := fun w' => w'.cell? ⟨w1.heap.size, 0, none⟩ = some (.slice ua ss.length uc) ∧ w'.cell? ⟨gl, 0, none⟩ = some (.slice (some ⟨gk, 0, none⟩) n ck) ∧ w'.cell? ⟨gk, n - 1, none⟩ = some (.int .i64 at0) ∧ True) (by kernel_rfl) ⟨c1, q0, q1, trivial⟩ (fun hHeld => ?_)
        refine wpAnyH_take (i := 0) (oi := ?oia0) (v := .agg #[.slice ua ss.length uc]) ?hia0 (by kernel_rfl) (by kernel_rfl) (by kernel_rfl) ?hqa0 ?hya0 hHeld ?hra0
        case hia0 =>
          simp only [List.getElem?_toArray, List.getElem?_cons_succ, List.getElem?_cons_zero]
          rfl
        case hqa0 => exact fun _ _ _ h => h
        case hya0 => exact Or.inl ⟨by kernel_rfl, fun w hSw => by (obtain ⟨s1, s2, s3, s4⟩ := hSw; go_simp)⟩
        try simp only [Act.put, List.setIfInBounds_toArray, List.set_cons_zero, List.set_cons_succ]
        refine wpAnyH_take (i := 1) (oi := ?oia1) (v := .slice (some ⟨gl, 0, none⟩) LL.length lc) ?hia1 (by kernel_rfl) (by kernel_rfl) (by kernel_rfl) ?hqa1 ?hya1 hHeld ?hra1
        case hia1 =>
          simp only [List.getElem?_toArray, List.getElem?_cons_succ, List.getElem?_cons_zero]
          rfl
        case hqa1 => exact fun _ _ _ h => h
        case hya1 => exact Or.inl ⟨by kernel_rfl, fun w hSw => by go_simp⟩
        try simp only [Act.put, List.setIfInBounds_toArray, List.set_cons_zero, List.set_cons_succ]
        refine wpAnyH_take (i := 2) (oi := ?oia2) (v := .int .i64 (0 : Int)) ?hia2 (by kernel_rfl) (by kernel_rfl) (by kernel_rfl) ?hqa2 ?hya2 hHeld ?hra2
        case hia2 =>
          simp only [List.getElem?_toArray, List.getElem?_cons_succ, List.getElem?_cons_zero]
          rfl
        case hqa2 => exact fun _ _ _ h => h
        case hya2 => exact Or.inl ⟨by kernel_rfl, fun w hSw => by go_simp⟩
        try simp only [Act.put, List.setIfInBounds_toArray, List.set_cons_zero, List.set_cons_succ]
        refine wpAnyH_take (i := 3) (oi := ?oia3) (v := .pointer (some ⟨gl, 0, none⟩)) ?hia3 (by kernel_rfl) (by kernel_rfl) (by kernel_rfl) ?hqa3 ?hya3 hHeld ?hra3
        case hia3 =>
          simp only [List.getElem?_toArray, List.getElem?_cons_succ, List.getElem?_cons_zero]
          rfl
        case hqa3 => exact fun _ _ _ h => h
        case hya3 => exact Or.inl ⟨by kernel_rfl, fun w hSw => by go_simp⟩
        try simp only [Act.put, List.setIfInBounds_toArray, List.set_cons_zero, List.set_cons_succ]
        refine wpAnyH_take (i := 4) (oi := ?oia4) (v := .slice (some ⟨gk, 0, none⟩) n ck) ?hia4 (by kernel_rfl) (by kernel_rfl) (by kernel_rfl) ?hqa4 ?hya4 hHeld ?hra4
        case hia4 =>
          simp only [List.getElem?_toArray, List.getElem?_cons_succ, List.getElem?_cons_zero]
          rfl
        case hqa4 => exact fun _ _ _ h => h
        case hya4 => exact Or.inl ⟨by kernel_rfl, fun w hSw => by (obtain ⟨s1, s2, s3, s4⟩ := hSw; go_simp)⟩
        try simp only [Act.put, List.setIfInBounds_toArray, List.set_cons_zero, List.set_cons_succ]
        refine wpAnyH_ready (rs := [5]) (by kernel_rfl) (by simp) ?_
        refine AllReadyH.cons (o := ?ooa5) ?hoa5 (fun K hK => ?_) AllReadyH.nil
        case hoa5 =>
          simp only [List.getElem?_toArray, List.getElem?_cons_succ, List.getElem?_cons_zero]
          rfl
        go_simp
        go_at_call 10
        refine (hWk _ (by go_grown)).mono ?_
        rintro e w5 ⟨rfl, b5⟩
        have M5 : Below wb.heap.size wb w5 := Below.trans (by go_grown) b5
        obtain ⟨hc5, hf5⟩ := bcell M5
        go_wp2_with fail
        refine hK.out _ _ ⟨(hc5 _ _ hXl).trans c1, (hc5 _ _ gB).trans q0, (hc5 _ _ gB1).trans q1, trivial⟩ (fun hHeld => ?_)
        clear hK K
        try simp only [Act.put, List.setIfInBounds_toArray, List.set_cons_zero, List.set_cons_succ]
        refine wpAnyH_take (i := 6) (oi := ?oia6) (v := .bool false) ?hia6 (by kernel_rfl) (by kernel_rfl) (by kernel_rfl) ?hqa6 ?hya6 hHeld ?hra6
        case hia6 =>
          simp only [List.getElem?_toArray, List.getElem?_cons_succ, List.getElem?_cons_zero]
          rfl
        case hqa6 => exact fun _ _ _ h => h
        case hya6 => exact Or.inl ⟨by kernel_rfl, fun w hSw => by go_simp⟩
        try simp only [Act.put, List.setIfInBounds_toArray, List.set_cons_zero, List.set_cons_succ]
        refine wpAnyH_take (i := 7) (oi := ?oia7) (v := .bool false) ?hia7 (by kernel_rfl) (by kernel_rfl) (by kernel_rfl) ?hqa7 ?hya7 hHeld ?hra7
        case hia7 =>
          simp only [List.getElem?_toArray, List.getElem?_cons_succ, List.getElem?_cons_zero]
          rfl
        case hqa7 => exact fun _ _ _ h => h
        case hya7 => exact Or.inl ⟨by kernel_rfl, fun w hSw => by go_simp⟩
        try simp only [Act.put, List.setIfInBounds_toArray, List.set_cons_zero, List.set_cons_succ]
        refine wpAnyH_take (i := 8) (oi := ?oia8) (v := .slice (some ⟨gl, 0, none⟩) LL.length lc) ?hia8 (by kernel_rfl) (by kernel_rfl) (by kernel_rfl) ?hqa8 ?hya8 hHeld ?hra8
        case hia8 =>
          simp only [List.getElem?_toArray, List.getElem?_cons_succ, List.getElem?_cons_zero]
          rfl
        case hqa8 => exact fun _ _ _ h => h
        case hya8 => exact Or.inl ⟨by kernel_rfl, fun w hSw => by go_simp⟩
        try simp only [Act.put, List.setIfInBounds_toArray, List.set_cons_zero, List.set_cons_succ]
        refine wpAnyH_take (i := 9) (oi := ?oia9) (v := .int .i64 (0 : Int)) ?hia9 (by kernel_rfl) (by kernel_rfl) (by kernel_rfl) ?hqa9 ?hya9 hHeld ?hra9
        case hia9 =>
          simp only [List.getElem?_toArray, List.getElem?_cons_succ, List.getElem?_cons_zero]
          rfl
        case hqa9 => exact fun _ _ _ h => h
        case hya9 => exact Or.inl ⟨by kernel_rfl, fun w hSw => by go_simp⟩
        try simp only [Act.put, List.setIfInBounds_toArray, List.set_cons_zero, List.set_cons_succ]
        refine wpAnyH_take (i := 10) (oi := ?oia10) (v := .pointer (some ⟨gl, 0, none⟩)) ?hia10 (by kernel_rfl) (by kernel_rfl) (by kernel_rfl) ?hqa10 ?hya10 hHeld ?hra10
        case hia10 =>
          simp only [List.getElem?_toArray, List.getElem?_cons_succ, List.getElem?_cons_zero]
          rfl
        case hqa10 => exact fun _ _ _ h => h
        case hya10 => exact Or.inl ⟨by kernel_rfl, fun w hSw => by go_simp⟩
        try simp only [Act.put, List.setIfInBounds_toArray, List.set_cons_zero, List.set_cons_succ]
        refine wpAnyH_take (i := 11) (oi := ?oia11) (v := .slice (some ⟨gk, 0, none⟩) n ck) ?hia11 (by kernel_rfl) (by kernel_rfl) (by kernel_rfl) ?hqa11 ?hya11 hHeld ?hra11
        case hia11 =>
          simp only [List.getElem?_toArray, List.getElem?_cons_succ, List.getElem?_cons_zero]
          rfl
        case hqa11 => exact fun _ _ _ h => h
        case hya11 => exact Or.inl ⟨by kernel_rfl, fun w hSw => by (obtain ⟨s1, s2, s3, s4⟩ := hSw; go_simp)⟩
        try simp only [Act.put, List.setIfInBounds_toArray, List.set_cons_zero, List.set_cons_succ]
        refine wpAnyH_take (i := 12) (oi := ?oia12) (v := .slice (some ⟨gl, 0, none⟩) LL.length lc) ?hia12 (by kernel_rfl) (by kernel_rfl) (by kernel_rfl) ?hqa12 ?hya12 hHeld ?hra12
        case hia12 =>
          simp only [List.getElem?_toArray, List.getElem?_cons_succ, List.getElem?_cons_zero]
          rfl
        case hqa12 => exact fun _ _ _ h => h
        case hya12 => exact Or.inl ⟨by kernel_rfl, fun w hSw => by go_simp⟩
        try simp only [Act.put, List.setIfInBounds_toArray, List.set_cons_zero, List.set_cons_succ]
        refine wpAnyH_take (i := 13) (oi := ?oia13) (v := .int .i64 (0 : Int)) ?hia13 (by kernel_rfl) (by kernel_rfl) (by kernel_rfl) ?hqa13 ?hya13 hHeld ?hra13
        case hia13 =>
          simp only [List.getElem?_toArray, List.getElem?_cons_succ, List.getElem?_cons_zero]
          rfl
        case hqa13 => exact fun _ _ _ h => h
        case hya13 => exact Or.inl ⟨by kernel_rfl, fun w hSw => by go_simp⟩
        try simp only [Act.put, List.setIfInBounds_toArray, List.set_cons_zero, List.set_cons_succ]
        refine wpAnyH_take (i := 14) (oi := ?oia14) (v := .pointer (some ⟨gl, 0, none⟩)) ?hia14 (by kernel_rfl) (by kernel_rfl) (by kernel_rfl) ?hqa14 ?hya14 hHeld ?hra14
        case hia14 =>
          simp only [List.getElem?_toArray, List.getElem?_cons_succ, List.getElem?_cons_zero]
          rfl
        case hqa14 => exact fun _ _ _ h => h
        case hya14 => exact Or.inl ⟨by kernel_rfl, fun w hSw => by go_simp⟩
        try simp only [Act.put, List.setIfInBounds_toArray, List.set_cons_zero, List.set_cons_succ]
        refine wpAnyH_take (i := 15) (oi := ?oia15) (v := .slice (some ⟨gk, 0, none⟩) n ck) ?hia15 (by kernel_rfl) (by kernel_rfl) (by kernel_rfl) ?hqa15 ?hya15 hHeld ?hra15
        case hia15 =>
          simp only [List.getElem?_toArray, List.getElem?_cons_succ, List.getElem?_cons_zero]
          rfl
        case hqa15 => exact fun _ _ _ h => h
        case hya15 => exact Or.inl ⟨by kernel_rfl, fun w hSw => by (obtain ⟨s1, s2, s3, s4⟩ := hSw; go_simp)⟩
        try simp only [Act.put, List.setIfInBounds_toArray, List.set_cons_zero, List.set_cons_succ]
        refine wpAnyH_take (i := 16) (oi := ?oia16) (v := .int .i64 (n : Int)) ?hia16 (by kernel_rfl) (by kernel_rfl) (by kernel_rfl) ?hqa16 ?hya16 hHeld ?hra16
        case hia16 =>
          simp only [List.getElem?_toArray, List.getElem?_cons_succ, List.getElem?_cons_zero]
          rfl
        case hqa16 => exact fun _ _ _ h => h
        case hya16 => exact Or.inl ⟨by kernel_rfl, fun w hSw => by go_simp⟩
        try simp only [Act.put, List.setIfInBounds_toArray, List.set_cons_zero, List.set_cons_succ]
        refine wpAnyH_take (i := 17) (oi := ?oia17) (v := .int .i64 ((n : Int) - 1)) ?hia17 (by kernel_rfl) (by kernel_rfl) (by kernel_rfl) ?hqa17 ?hya17 hHeld ?hra17
        case hia17 =>
          simp only [List.getElem?_toArray, List.getElem?_cons_succ, List.getElem?_cons_zero]
          rfl
        case hqa17 => exact fun _ _ _ h => h
        case hya17 => exact Or.inl ⟨by kernel_rfl, fun w hSw => by go_simp⟩
        try simp only [Act.put, List.setIfInBounds_toArray, List.set_cons_zero, List.set_cons_succ]
        refine wpAnyH_take (i := 18) (oi := ?oia18) (v := .pointer (some ⟨gk, n - 1, none⟩)) ?hia18 (by kernel_rfl) (by kernel_rfl) (by kernel_rfl) ?hqa18 ?hya18 hHeld ?hra18
        case hia18 =>
          simp only [List.getElem?_toArray, List.getElem?_cons_succ, List.getElem?_cons_zero]
          rfl
        case hqa18 => exact fun _ _ _ h => h
        case hya18 => exact Or.inl ⟨by kernel_rfl, fun w hSw => by go_simp⟩
        try simp only [Act.put, List.setIfInBounds_toArray, List.set_cons_zero, List.set_cons_succ]
        refine wpAnyH_take (i := 19) (oi := ?oia19) (v := .int .i64 at0) ?hia19 (by kernel_rfl) (by kernel_rfl) (by kernel_rfl) ?hqa19 ?hya19 hHeld ?hra19
        case hia19 =>
          simp only [List.getElem?_toArray, List.getElem?_cons_succ, List.getElem?_cons_zero]
          rfl
        case hqa19 => exact fun _ _ _ h => h
        case hya19 => exact Or.inl ⟨by kernel_rfl, fun w hSw => by (obtain ⟨s1, s2, s3, s4⟩ := hSw; go_simp)⟩
        try simp only [Act.put, List.setIfInBounds_toArray, List.set_cons_zero, List.set_cons_succ]
        refine wpAnyH_take (i := 20) (oi := ?oia20) (v := .int .i64 at0) ?hia20 (by kernel_rfl) (by kernel_rfl) (by kernel_rfl) ?hqa20 ?hya20 hHeld ?hra20
        case hia20 =>
          simp only [List.getElem?_toArray, List.getElem?_cons_succ, List.getElem?_cons_zero]
          rfl
        case hqa20 => exact fun _ _ _ h => h
        case hya20 => exact Or.inl ⟨by kernel_rfl, fun w hSw => by go_simp⟩
        try simp only [Act.put, List.setIfInBounds_toArray, List.set_cons_zero, List.set_cons_succ]
        refine wpAnyH_take (i := 21) (oi := ?oia21) (v := .bool false) ?hia21 (by kernel_rfl) (by kernel_rfl) (by kernel_rfl) ?hqa21 ?hya21 hHeld ?hra21
        case hia21 =>
          simp only [List.getElem?_toArray, List.getElem?_cons_succ, List.getElem?_cons_zero]
          rfl
        case hqa21 => exact fun _ _ _ h => h
        case hya21 => exact Or.inl ⟨by kernel_rfl, fun w hSw => by go_simp⟩
        try simp only [Act.put, List.setIfInBounds_toArray, List.set_cons_zero, List.set_cons_succ]
        refine wpAnyH_take (i := 22) (oi := ?oia22) (v := .bool false) ?hia22 (by kernel_rfl) (by kernel_rfl) (by kernel_rfl) ?hqa22 ?hya22 hHeld ?hra22
        case hia22 =>
          simp only [List.getElem?_toArray, List.getElem?_cons_succ, List.getElem?_cons_zero]
          rfl
        case hqa22 => exact fun _ _ _ h => h
        case hya22 => exact Or.inl ⟨by kernel_rfl, fun w hSw => by go_simp⟩
        try simp only [Act.put, List.setIfInBounds_toArray, List.set_cons_zero, List.set_cons_succ]
        refine wpAnyH_take (i := 23) (oi := ?oia23) (v := .bool false) ?hia23 (by kernel_rfl) (by kernel_rfl) (by kernel_rfl) ?hqa23 ?hya23 hHeld ?hra23
        case hia23 =>
          simp only [List.getElem?_toArray, List.getElem?_cons_succ, List.getElem?_cons_zero]
          rfl
        case hqa23 => exact fun _ _ _ h => h
        case hya23 => exact Or.inl ⟨by kernel_rfl, fun w hSw => by go_simp⟩
        try simp only [Act.put, List.setIfInBounds_toArray, List.set_cons_zero, List.set_cons_succ]
        refine wpAnyH_take (i := 24) (oi := ?oia24) (v := .slice (some ⟨gl, 0, none⟩) LL.length lc) ?hia24 (by kernel_rfl) (by kernel_rfl) (by kernel_rfl) ?hqa24 ?hya24 hHeld ?hra24
        case hia24 =>
          simp only [List.getElem?_toArray, List.getElem?_cons_succ, List.getElem?_cons_zero]
          rfl
        case hqa24 => exact fun _ _ _ h => h
        case hya24 => exact Or.inl ⟨by kernel_rfl, fun w hSw => by go_simp⟩
        try simp only [Act.put, List.setIfInBounds_toArray, List.set_cons_zero, List.set_cons_succ]
        refine wpAnyH_take (i := 25) (oi := ?oia25) (v := .int .i64 (0 : Int)) ?hia25 (by kernel_rfl) (by kernel_rfl) (by kernel_rfl) ?hqa25 ?hya25 hHeld ?hra25
        case hia25 =>
          simp only [List.getElem?_toArray, List.getElem?_cons_succ, List.getElem?_cons_zero]
          rfl
        case hqa25 => exact fun _ _ _ h => h
        case hya25 => exact Or.inl ⟨by kernel_rfl, fun w hSw => by go_simp⟩
        try simp only [Act.put, List.setIfInBounds_toArray, List.set_cons_zero, List.set_cons_succ]
        refine wpAnyH_take (i := 26) (oi := ?oia26) (v := .pointer (some ⟨gl, 0, none⟩)) ?hia26 (by kernel_rfl) (by kernel_rfl) (by kernel_rfl) ?hqa26 ?hya26 hHeld ?hra26
        case hia26 =>
          simp only [List.getElem?_toArray, List.getElem?_cons_succ, List.getElem?_cons_zero]
          rfl
        case hqa26 => exact fun _ _ _ h => h
        case hya26 => exact Or.inl ⟨by kernel_rfl, fun w hSw => by go_simp⟩
        try simp only [Act.put, List.setIfInBounds_toArray, List.set_cons_zero, List.set_cons_succ]
        refine wpAnyH_take (i := 27) (oi := ?oia27) (v := .slice (some ⟨gk, 0, none⟩) n ck) ?hia27 (by kernel_rfl) (by kernel_rfl) (by kernel_rfl) ?hqa27 ?hya27 hHeld ?hra27
        case hia27 =>
          simp only [List.getElem?_toArray, List.getElem?_cons_succ, List.getElem?_cons_zero]
          rfl
        case hqa27 => exact fun _ _ _ h => h
        case hya27 => exact Or.inl ⟨by kernel_rfl, fun w hSw => by (obtain ⟨s1, s2, s3, s4⟩ := hSw; go_simp)⟩
        try simp only [Act.put, List.setIfInBounds_toArray, List.set_cons_zero, List.set_cons_succ]
        refine wpAnyH_take (i := 28) (oi := ?oia28) (v := .int .i64 (n : Int)) ?hia28 (by kernel_rfl) (by kernel_rfl) (by kernel_rfl) ?hqa28 ?hya28 hHeld ?hra28
        case hia28 =>
          simp only [List.getElem?_toArray, List.getElem?_cons_succ, List.getElem?_cons_zero]
          rfl
        case hqa28 => exact fun _ _ _ h => h
        case hya28 => exact Or.inl ⟨by kernel_rfl, fun w hSw => by go_simp⟩
        try simp only [Act.put, List.setIfInBounds_toArray, List.set_cons_zero, List.set_cons_succ]
        refine wpAnyH_take (i := 29) (oi := ?oia29) (v := .int .i64 most) ?hia29 (by kernel_rfl) (by kernel_rfl) (by kernel_rfl) ?hqa29 ?hya29 hHeld ?hra29
        case hia29 =>
          simp only [List.getElem?_toArray, List.getElem?_cons_succ, List.getElem?_cons_zero]
          rfl
        case hqa29 => exact fun _ _ _ h => h
        case hya29 => exact Or.inl ⟨by kernel_rfl, fun w hSw => by go_simp⟩
        try simp only [Act.put, List.setIfInBounds_toArray, List.set_cons_zero, List.set_cons_succ]
        refine wpAnyH_take (i := 30) (oi := ?oia30) (v := .bool false) ?hia30 (by kernel_rfl) (by kernel_rfl) (by kernel_rfl) ?hqa30 ?hya30 hHeld ?hra30
        case hia30 =>
          simp only [List.getElem?_toArray, List.getElem?_cons_succ, List.getElem?_cons_zero]
          rfl
        case hqa30 => exact fun _ _ _ h => h
        case hya30 => exact Or.inl ⟨by kernel_rfl, fun w hSw => by go_simp⟩
        try simp only [Act.put, List.setIfInBounds_toArray, List.set_cons_zero, List.set_cons_succ]
        refine wpAnyH_take (i := 31) (oi := ?oia31) (v := .bool false) ?hia31 (by kernel_rfl) (by kernel_rfl) (by kernel_rfl) ?hqa31 ?hya31 hHeld ?hra31
        case hia31 =>
          simp only [List.getElem?_toArray, List.getElem?_cons_succ, List.getElem?_cons_zero]
          rfl
        case hqa31 => exact fun _ _ _ h => h
        case hya31 => exact Or.inl ⟨by kernel_rfl, fun w hSw => by go_simp⟩
        try simp only [Act.put, List.setIfInBounds_toArray, List.set_cons_zero, List.set_cons_succ]
        refine wpAnyH_take (i := 32) (oi := ?oia32) (v := .bool false) ?hia32 (by kernel_rfl) (by kernel_rfl) (by kernel_rfl) ?hqa32 ?hya32 hHeld ?hra32
        case hia32 =>
          simp only [List.getElem?_toArray, List.getElem?_cons_succ, List.getElem?_cons_zero]
          rfl
        case hqa32 => exact fun _ _ _ h => h
        case hya32 => exact Or.inl ⟨by kernel_rfl, fun w hSw => by go_simp⟩
        try simp only [Act.put, List.setIfInBounds_toArray, List.set_cons_zero, List.set_cons_succ]
        refine wpAnyH_take (i := 33) (oi := ?oia33) (v := .int .i64 (0 : Int)) ?hia33 (by kernel_rfl) (by kernel_rfl) (by kernel_rfl) ?hqa33 ?hya33 hHeld ?hra33
        case hia33 =>
          simp only [List.getElem?_toArray, List.getElem?_cons_succ, List.getElem?_cons_zero]
          rfl
        case hqa33 => exact fun _ _ _ h => h
        case hya33 => exact Or.inl ⟨by kernel_rfl, fun w hSw => by go_simp⟩
        try simp only [Act.put, List.setIfInBounds_toArray, List.set_cons_zero, List.set_cons_succ]
        refine wpAnyH_take (i := 34) (oi := ?oia34) (v := .bool false) ?hia34 (by kernel_rfl) (by kernel_rfl) (by kernel_rfl) ?hqa34 ?hya34 hHeld ?hra34
        case hia34 =>
          simp only [List.getElem?_toArray, List.getElem?_cons_succ, List.getElem?_cons_zero]
          rfl
        case hqa34 => exact fun _ _ _ h => h
        case hya34 => exact Or.inl ⟨by kernel_rfl, fun w hSw => by go_simp⟩
        try simp only [Act.put, List.setIfInBounds_toArray, List.set_cons_zero, List.set_cons_succ]
        refine wpAnyH_take (i := 35) (oi := ?oia35) (v := .bool false) ?hia35 (by kernel_rfl) (by kernel_rfl) (by kernel_rfl) ?hqa35 ?hya35 hHeld ?hra35
        case hia35 =>
          simp only [List.getElem?_toArray, List.getElem?_cons_succ, List.getElem?_cons_zero]
          rfl
        case hqa35 => exact fun _ _ _ h => h
        case hya35 => exact Or.inl ⟨by kernel_rfl, fun w hSw => by go_simp⟩
        try simp only [Act.put, List.setIfInBounds_toArray, List.set_cons_zero, List.set_cons_succ]
        refine wpAnyH_take (i := 36) (oi := ?oia36) (v := undef) ?hia36 (by kernel_rfl) (by kernel_rfl) (by kernel_rfl) ?hqa36 ?hya36 hHeld ?hra36
        case hia36 =>
          simp only [List.getElem?_toArray, List.getElem?_cons_succ, List.getElem?_cons_zero]
          rfl
        case hqa36 => exact fun _ _ _ h => h
        case hya36 => exact Or.inr ⟨by kernel_rfl, rfl⟩
        try simp only [Act.put, List.setIfInBounds_toArray, List.set_cons_zero, List.set_cons_succ]
        refine wpAnyH_take (i := 37) (oi := ?oia37) (v := undef) ?hia37 (by kernel_rfl) (by kernel_rfl) (by kernel_rfl) ?hqa37 ?hya37 hHeld ?hra37
        case hia37 =>
          simp only [List.getElem?_toArray, List.getElem?_cons_succ, List.getElem?_cons_zero]
          rfl
        case hqa37 => exact fun _ _ _ h => h
        case hya37 => exact Or.inr ⟨by kernel_rfl, rfl⟩
        try simp only [Act.put, List.setIfInBounds_toArray, List.set_cons_zero, List.set_cons_succ]
        refine wpAnyH_take (i := 38) (oi := ?oia38) (v := undef) ?hia38 (by kernel_rfl) (by kernel_rfl) (by kernel_rfl) ?hqa38 ?hya38 hHeld ?hra38
        case hia38 =>
          simp only [List.getElem?_toArray, List.getElem?_cons_succ, List.getElem?_cons_zero]
          rfl
        case hqa38 => exact fun _ _ _ h => h
        case hya38 => exact Or.inr ⟨by kernel_rfl, rfl⟩
        try simp only [Act.put, List.setIfInBounds_toArray, List.set_cons_zero, List.set_cons_succ]
        refine wpAnyH_take (i := 39) (oi := ?oia39) (v := undef) ?hia39 (by kernel_rfl) (by kernel_rfl) (by kernel_rfl) ?hqa39 ?hya39 hHeld ?hra39
        case hia39 =>
          simp only [List.getElem?_toArray, List.getElem?_cons_succ, List.getElem?_cons_zero]
          rfl
        case hqa39 => exact fun _ _ _ h => h
        case hya39 => exact Or.inr ⟨by kernel_rfl, rfl⟩
        try simp only [Act.put, List.setIfInBounds_toArray, List.set_cons_zero, List.set_cons_succ]
        refine wpAnyH_take (i := 40) (oi := ?oia40) (v := undef) ?hia40 (by kernel_rfl) (by kernel_rfl) (by kernel_rfl) ?hqa40 ?hya40 hHeld ?hra40
        case hia40 =>
          simp only [List.getElem?_toArray, List.getElem?_cons_succ, List.getElem?_cons_zero]
          rfl
        case hqa40 => exact fun _ _ _ h => h
        case hya40 => exact Or.inr ⟨by kernel_rfl, rfl⟩
        try simp only [Act.put, List.setIfInBounds_toArray, List.set_cons_zero, List.set_cons_succ]
        refine wpAnyH_take (i := 41) (oi := ?oia41) (v := undef) ?hia41 (by kernel_rfl) (by kernel_rfl) (by kernel_rfl) ?hqa41 ?hya41 hHeld ?hra41
        case hia41 =>
          simp only [List.getElem?_toArray, List.getElem?_cons_succ, List.getElem?_cons_zero]
          rfl
        case hqa41 => exact fun _ _ _ h => h
        case hya41 => exact Or.inr ⟨by kernel_rfl, rfl⟩
        try simp only [Act.put, List.setIfInBounds_toArray, List.set_cons_zero, List.set_cons_succ]
        refine wpAnyH_take (i := 42) (oi := ?oia42) (v := undef) ?hia42 (by kernel_rfl) (by kernel_rfl) (by kernel_rfl) ?hqa42 ?hya42 hHeld ?hra42
        case hia42 =>
          simp only [List.getElem?_toArray, List.getElem?_cons_succ, List.getElem?_cons_zero]
          rfl
        case hqa42 => exact fun _ _ _ h => h
        case hya42 => exact Or.inr ⟨by kernel_rfl, rfl⟩
        try simp only [Act.put, List.setIfInBounds_toArray, List.set_cons_zero, List.set_cons_succ]
        refine wpAnyH_take (i := 43) (oi := ?oia43) (v := undef) ?hia43 (by kernel_rfl) (by kernel_rfl) (by kernel_rfl) ?hqa43 ?hya43 hHeld ?hra43
        case hia43 =>
          simp only [List.getElem?_toArray, List.getElem?_cons_succ, List.getElem?_cons_zero]
          rfl
        case hqa43 => exact fun _ _ _ h => h
        case hya43 => exact Or.inr ⟨by kernel_rfl, rfl⟩
        try simp only [Act.put, List.setIfInBounds_toArray, List.set_cons_zero, List.set_cons_succ]
        refine wpAnyH_take (i := 44) (oi := ?oia44) (v := undef) ?hia44 (by kernel_rfl) (by kernel_rfl) (by kernel_rfl) ?hqa44 ?hya44 hHeld ?hra44
        case hia44 =>
          simp only [List.getElem?_toArray, List.getElem?_cons_succ, List.getElem?_cons_zero]
          rfl
        case hqa44 => exact fun _ _ _ h => h
        case hya44 => exact Or.inr ⟨by kernel_rfl, rfl⟩
        try simp only [Act.put, List.setIfInBounds_toArray, List.set_cons_zero, List.set_cons_succ]
        refine wpAnyH_take (i := 45) (oi := ?oia45) (v := undef) ?hia45 (by kernel_rfl) (by kernel_rfl) (by kernel_rfl) ?hqa45 ?hya45 hHeld ?hra45
        case hia45 =>
          simp only [List.getElem?_toArray, List.getElem?_cons_succ, List.getElem?_cons_zero]
          rfl
        case hqa45 => exact fun _ _ _ h => h
        case hya45 => exact Or.inr ⟨by kernel_rfl, rfl⟩
        try simp only [Act.put, List.setIfInBounds_toArray, List.set_cons_zero, List.set_cons_succ]
        refine wpAnyH_take (i := 46) (oi := ?oia46) (v := undef) ?hia46 (by kernel_rfl) (by kernel_rfl) (by kernel_rfl) ?hqa46 ?hya46 hHeld ?hra46
        case hia46 =>
          simp only [List.getElem?_toArray, List.getElem?_cons_succ, List.getElem?_cons_zero]
          rfl
        case hqa46 => exact fun _ _ _ h => h
        case hya46 => exact Or.inr ⟨by kernel_rfl, rfl⟩
        try simp only [Act.put, List.setIfInBounds_toArray, List.set_cons_zero, List.set_cons_succ]
        refine wpAnyH_take (i := 47) (oi := ?oia47) (v := undef) ?hia47 (by kernel_rfl) (by kernel_rfl) (by kernel_rfl) ?hqa47 ?hya47 hHeld ?hra47
        case hia47 =>
          simp only [List.getElem?_toArray, List.getElem?_cons_succ, List.getElem?_cons_zero]
          rfl
        case hqa47 => exact fun _ _ _ h => h
        case hya47 => exact Or.inr ⟨by kernel_rfl, rfl⟩
        try simp only [Act.put, List.setIfInBounds_toArray, List.set_cons_zero, List.set_cons_succ]
        refine wpAnyH_take (i := 48) (oi := ?oia48) (v := undef) ?hia48 (by kernel_rfl) (by kernel_rfl) (by kernel_rfl) ?hqa48 ?hya48 hHeld ?hra48
        case hia48 =>
          simp only [List.getElem?_toArray, List.getElem?_cons_succ, List.getElem?_cons_zero]
          rfl
        case hqa48 => exact fun _ _ _ h => h
        case hya48 => exact Or.inr ⟨by kernel_rfl, rfl⟩
        try simp only [Act.put, List.setIfInBounds_toArray, List.set_cons_zero, List.set_cons_succ]
        refine wpAnyH_take (i := 49) (oi := ?oia49) (v := undef) ?hia49 (by kernel_rfl) (by kernel_rfl) (by kernel_rfl) ?hqa49 ?hya49 hHeld ?hra49
        case hia49 =>
          simp only [List.getElem?_toArray, List.getElem?_cons_succ, List.getElem?_cons_zero]
          rfl
        case hqa49 => exact fun _ _ _ h => h
        case hya49 => exact Or.inr ⟨by kernel_rfl, rfl⟩
        try simp only [Act.put, List.setIfInBounds_toArray, List.set_cons_zero, List.set_cons_succ]
        refine wpAnyH_take (i := 50) (oi := ?oia50) (v := undef) ?hia50 (by kernel_rfl) (by kernel_rfl) (by kernel_rfl) ?hqa50 ?hya50 hHeld ?hra50
        case hia50 =>
          simp only [List.getElem?_toArray, List.getElem?_cons_succ, List.getElem?_cons_zero]
          rfl
        case hqa50 => exact fun _ _ _ h => h
        case hya50 => exact Or.inr ⟨by kernel_rfl, rfl⟩
        try simp only [Act.put, List.setIfInBounds_toArray, List.set_cons_zero, List.set_cons_succ]
        refine wpAnyH_take (i := 51) (oi := ?oia51) (v := undef) ?hia51 (by kernel_rfl) (by kernel_rfl) (by kernel_rfl) ?hqa51 ?hya51 hHeld ?hra51
        case hia51 =>
          simp only [List.getElem?_toArray, List.getElem?_cons_succ, List.getElem?_cons_zero]
          rfl
        case hqa51 => exact fun _ _ _ h => h
        case hya51 => exact Or.inr ⟨by kernel_rfl, rfl⟩
        try simp only [Act.put, List.setIfInBounds_toArray, List.set_cons_zero, List.set_cons_succ]
        refine wpAnyH_take (i := 52) (oi := ?oia52) (v := undef) ?hia52 (by kernel_rfl) (by kernel_rfl) (by kernel_rfl) ?hqa52 ?hya52 hHeld ?hra52
        case hia52 =>
          simp only [List.getElem?_toArray, List.getElem?_cons_succ, List.getElem?_cons_zero]
          rfl
        case hqa52 => exact fun _ _ _ h => h
        case hya52 => exact Or.inr ⟨by kernel_rfl, rfl⟩
        try simp only [Act.put, List.setIfInBounds_toArray, List.set_cons_zero, List.set_cons_succ]
        refine wpAnyH_take (i := 53) (oi := ?oia53) (v := undef) ?hia53 (by kernel_rfl) (by kernel_rfl) (by kernel_rfl) ?hqa53 ?hya53 hHeld ?hra53
        case hia53 =>
          simp only [List.getElem?_toArray, List.getElem?_cons_succ, List.getElem?_cons_zero]
          rfl
        case hqa53 => exact fun _ _ _ h => h
        case hya53 => exact Or.inr ⟨by kernel_rfl, rfl⟩
        try simp only [Act.put, List.setIfInBounds_toArray, List.set_cons_zero, List.set_cons_succ]
        refine wpAnyH_take (i := 54) (oi := ?oia54) (v := undef) ?hia54 (by kernel_rfl) (by kernel_rfl) (by kernel_rfl) ?hqa54 ?hya54 hHeld ?hra54
        case hia54 =>
          simp only [List.getElem?_toArray, List.getElem?_cons_succ, List.getElem?_cons_zero]
          rfl
        case hqa54 => exact fun _ _ _ h => h
        case hya54 => exact Or.inr ⟨by kernel_rfl, rfl⟩
        try simp only [Act.put, List.setIfInBounds_toArray, List.set_cons_zero, List.set_cons_succ]
        refine wpAnyH_take (i := 55) (oi := ?oia55) (v := undef) ?hia55 (by kernel_rfl) (by kernel_rfl) (by kernel_rfl) ?hqa55 ?hya55 hHeld ?hra55
        case hia55 =>
          simp only [List.getElem?_toArray, List.getElem?_cons_succ, List.getElem?_cons_zero]
          rfl
        case hqa55 => exact fun _ _ _ h => h
        case hya55 => exact Or.inr ⟨by kernel_rfl, rfl⟩
        try simp only [Act.put, List.setIfInBounds_toArray, List.set_cons_zero, List.set_cons_succ]
        refine wpAnyH_take (i := 56) (oi := ?oia56) (v := undef) ?hia56 (by kernel_rfl) (by kernel_rfl) (by kernel_rfl) ?hqa56 ?hya56 hHeld ?hra56
        case hia56 =>
          simp only [List.getElem?_toArray, List.getElem?_cons_succ, List.getElem?_cons_zero]
          rfl
        case hqa56 => exact fun _ _ _ h => h
        case hya56 => exact Or.inr ⟨by kernel_rfl, rfl⟩
        try simp only [Act.put, List.setIfInBounds_toArray, List.set_cons_zero, List.set_cons_succ]
        refine wpAnyH_take (i := 57) (oi := ?oia57) (v := undef) ?hia57 (by kernel_rfl) (by kernel_rfl) (by kernel_rfl) ?hqa57 ?hya57 hHeld ?hra57
        case hia57 =>
          simp only [List.getElem?_toArray, List.getElem?_cons_succ, List.getElem?_cons_zero]
          rfl
        case hqa57 => exact fun _ _ _ h => h
        case hya57 => exact Or.inr ⟨by kernel_rfl, rfl⟩
        try simp only [Act.put, List.setIfInBounds_toArray, List.set_cons_zero, List.set_cons_succ]
        refine wpAnyH_take (i := 58) (oi := ?oia58) (v := undef) ?hia58 (by kernel_rfl) (by kernel_rfl) (by kernel_rfl) ?hqa58 ?hya58 hHeld ?hra58
        case hia58 =>
          simp only [List.getElem?_toArray, List.getElem?_cons_succ, List.getElem?_cons_zero]
          rfl
        case hqa58 => exact fun _ _ _ h => h
        case hya58 => exact Or.inr ⟨by kernel_rfl, rfl⟩
        try simp only [Act.put, List.setIfInBounds_toArray, List.set_cons_zero, List.set_cons_succ]
        refine wpAnyH_take (i := 59) (oi := ?oia59) (v := undef) ?hia59 (by kernel_rfl) (by kernel_rfl) (by kernel_rfl) ?hqa59 ?hya59 hHeld ?hra59
        case hia59 =>
          simp only [List.getElem?_toArray, List.getElem?_cons_succ, List.getElem?_cons_zero]
          rfl
        case hqa59 => exact fun _ _ _ h => h
        case hya59 => exact Or.inr ⟨by kernel_rfl, rfl⟩
        try simp only [Act.put, List.setIfInBounds_toArray, List.set_cons_zero, List.set_cons_succ]
        refine wpAnyH_take (i := 60) (oi := ?oia60) (v := .bool false) ?hia60 (by kernel_rfl) (by kernel_rfl) (by kernel_rfl) ?hqa60 ?hya60 hHeld ?hra60
        case hia60 =>
          simp only [List.getElem?_toArray, List.getElem?_cons_succ, List.getElem?_cons_zero]
          rfl
        case hqa60 => exact fun _ _ _ h => h
        case hya60 => exact Or.inl ⟨by kernel_rfl, fun w hSw => by go_simp⟩
        try simp only [Act.put, List.setIfInBounds_toArray, List.set_cons_zero, List.set_cons_succ]
        refine wpAnyH_take (i := 61) (oi := ?oia61) (v := .bool false) ?hia61 (by kernel_rfl) (by kernel_rfl) (by kernel_rfl) ?hqa61 ?hya61 hHeld ?hra61
        case hia61 =>
          simp only [List.getElem?_toArray, List.getElem?_cons_succ, List.getElem?_cons_zero]
          rfl
        case hqa61 => exact fun _ _ _ h => h
        case hya61 => exact Or.inl ⟨by kernel_rfl, fun w hSw => by go_simp⟩
        try simp only [Act.put, List.setIfInBounds_toArray, List.set_cons_zero, List.set_cons_succ]
        refine wpAnyH_done (by kernel_rfl) ?_ _
        have DN := HD.out.step M5
        clear hHeld hc5 hf5 M5 b5
        go_wp2
        go_roundw
        case rel => exact ⟨1, by omega, by go_num, DN⟩
        case measure => simp [intOf]; omega
      · have hkp : (0 : Int) < (k : Int) := by omega
        have hk1 : k - 1 < LL.length := by omega
        obtain ⟨up, _, q2, op0⟩ := D.l.at hk1
        have rp0 := reads_own op0
        have hpm : LL[k - 1].length ≤ maxLen := by have := H4.out LL[k - 1] (by simp); unfold maxLen; omega
        have hoo := List.pairwise_iff_getElem.1 H2.out (k - 1) k hk1 hlt (by omega)
        have hLk := fun W (hW : Below wb.heap.size wb W) => likeIntsD LL[k] LL[k - 1] (.slice (some ⟨gk, 0, none⟩) LL[k].length ck) up W hlm hpm (reads_below rk0 hW) (reads_below rp0 hW)
        rw [decide_eq_false (fun e => hoo.2 e.symm)] at hLk
        have hle := hoo.1
        obtain ⟨gp, cp, rfl⟩ : ∃ gp cp, up = .slice gp LL[k - 1].length cp := by
          obtain ⟨ao, cap, e, _⟩ := rp0
          rw [ints_length] at e
          exact ⟨ao, cap, e⟩
        have gB2 := World.block_lt_of_cell? wb _ q2
        have HD : Hid _ := D
        clear D ok0 rk0 hcap hok hla op0 rp0 hoo
        generalize LL[k].length = n at *
        generalize LL[k - 1].length = n' at *
        have hn1 : IntKind.i64.wrap ((n : Int) - 1) = (n : Int) - 1 := IntWalk.i64_in _ (by unfold maxLen at hlm; omega)
        have hn2 : (0 : Int) ≤ (n : Int) - 1 := by omega
        have hn3 : (n : Int) - 1 < (n : Int) := by omega
        have hn4 : ((n : Int) - 1).toNat = n - 1 := by omega
        have hn5 : decide (most < (n : Int)) = false := decide_eq_false (by omega)
        have hn6 : ¬ most < (n : Int) := by omega
        have hn8 : ¬ (n : Int) < 1 := by omega
        have hn9 : (1 : Int) ≤ (n : Int) := by omega
        have hn7 : ¬ (n : Int) < (n' : Int) := by omega
        have hk2 : IntKind.i64.wrap ((k : Int) - 1) = (k : Int) - 1 := IntWalk.i64_in _ (by omega)
        have hk3 : (0 : Int) ≤ (k : Int) - 1 := by omega
        have hk4 : (k : Int) - 1 < (LL.length : Int) := by omega
        have hk5 : ((k : Int) - 1).toNat = k - 1 := by omega
        have hk6 : ¬ (k : Int) < 1 := by omega
        have hk7 : 0 < k := by omega
        go_wp2_with fail
        refine wp_region_held_drew (S := fun w' => w'.cell? ⟨w1.heap.size, 0, none⟩ = some (.slice ua ss.length uc) ∧ w'.cell? ⟨gl, k, none⟩ = some (.slice (some ⟨gk, 0, none⟩) n ck) ∧ w'.cell? ⟨gk, n - 1, none⟩ = some (.int .i64 at0) ∧ w'.cell? ⟨gl, k - 1, none⟩ = some (.slice gp n' cp)) (by kernel_rfl) ⟨c1, q0, q1, q2⟩ (fun hHeld => ?_)
        refine wpAnyH_take (i := 0) (oi := ?oib0) (v := .agg #[.slice ua ss.length uc]) ?hib0 (by kernel_rfl) (by kernel_rfl) (by kernel_rfl) ?hqb0 ?hyb0 hHeld ?hrb0
        case hib0 =>
          simp only [List.getElem?_toArray, List.getElem?_cons_succ, List.getElem?_cons_zero]
          rfl
        case hqb0 => exact fun _ _ _ h => h
        case hyb0 => exact Or.inl ⟨by kernel_rfl, fun w hSw => by (obtain ⟨s1, s2, s3, s4⟩ := hSw; go_simp)⟩
        try simp only [Act.put, List.setIfInBounds_toArray, List.set_cons_zero, List.set_cons_succ]
        refine wpAnyH_take (i := 1) (oi := ?oib1) (v := .slice (some ⟨gl, 0, none⟩) LL.length lc) ?hib1 (by kernel_rfl) (by kernel_rfl) (by kernel_rfl) ?hqb1 ?hyb1 hHeld ?hrb1
        case hib1 =>
          simp only [List.getElem?_toArray, List.getElem?_cons_succ, List.getElem?_cons_zero]
          rfl
        case hqb1 => exact fun _ _ _ h => h
        case hyb1 => exact Or.inl ⟨by kernel_rfl, fun w hSw => by go_simp⟩
        try simp only [Act.put, List.setIfInBounds_toArray, List.set_cons_zero, List.set_cons_succ]
        refine wpAnyH_take (i := 2) (oi := ?oib2) (v := .int .i64 (k : Int)) ?hib2 (by kernel_rfl) (by kernel_rfl) (by kernel_rfl) ?hqb2 ?hyb2 hHeld ?hrb2
        case hib2 =>
          simp only [List.getElem?_toArray, List.getElem?_cons_succ, List.getElem?_cons_zero]
          rfl
        case hqb2 => exact fun _ _ _ h => h
        case hyb2 => exact Or.inl ⟨by kernel_rfl, fun w hSw => by go_simp⟩
        try simp only [Act.put, List.setIfInBounds_toArray, List.set_cons_zero, List.set_cons_succ]
        refine wpAnyH_take (i := 3) (oi := ?oib3) (v := .pointer (some ⟨gl, k, none⟩)) ?hib3 (by kernel_rfl) (by kernel_rfl) (by kernel_rfl) ?hqb3 ?hyb3 hHeld ?hrb3
        case hib3 =>
          simp only [List.getElem?_toArray, List.getElem?_cons_succ, List.getElem?_cons_zero]
          rfl
        case hqb3 => exact fun _ _ _ h => h
        case hyb3 => exact Or.inl ⟨by kernel_rfl, fun w hSw => by go_simp⟩
        try simp only [Act.put, List.setIfInBounds_toArray, List.set_cons_zero, List.set_cons_succ]
        refine wpAnyH_take (i := 4) (oi := ?oib4) (v := .slice (some ⟨gk, 0, none⟩) n ck) ?hib4 (by kernel_rfl) (by kernel_rfl) (by kernel_rfl) ?hqb4 ?hyb4 hHeld ?hrb4
        case hib4 =>
          simp only [List.getElem?_toArray, List.getElem?_cons_succ, List.getElem?_cons_zero]
          rfl
        case hqb4 => exact fun _ _ _ h => h
        case hyb4 => exact Or.inl ⟨by kernel_rfl, fun w hSw => by (obtain ⟨s1, s2, s3, s4⟩ := hSw; go_simp)⟩
        try simp only [Act.put, List.setIfInBounds_toArray, List.set_cons_zero, List.set_cons_succ]
        refine wpAnyH_ready (rs := [5]) (by kernel_rfl) (by simp) ?_
        refine AllReadyH.cons (o := ?oob5) ?hob5 (fun K hK => ?_) AllReadyH.nil
        case hob5 =>
          simp only [List.getElem?_toArray, List.getElem?_cons_succ, List.getElem?_cons_zero]
          rfl
        go_simp
        go_at_call 10
        refine (hWk _ (by go_grown)).mono ?_
        rintro e w5 ⟨rfl, b5⟩
        have M5 : Below wb.heap.size wb w5 := Below.trans (by go_grown) b5
        obtain ⟨hc5, hf5⟩ := bcell M5
        go_wp2_with fail
        refine hK.out _ _ ⟨(hc5 _ _ hXl).trans c1, (hc5 _ _ gB).trans q0, (hc5 _ _ gB1).trans q1, (hc5 _ _ gB2).trans q2⟩ (fun hHeld => ?_)
        clear hK K
        try simp only [Act.put, List.setIfInBounds_toArray, List.set_cons_zero, List.set_cons_succ]
        refine wpAnyH_take (i := 6) (oi := ?oib6) (v := .bool false) ?hib6 (by kernel_rfl) (by kernel_rfl) (by kernel_rfl) ?hqb6 ?hyb6 hHeld ?hrb6
        case hib6 =>
          simp only [List.getElem?_toArray, List.getElem?_cons_succ, List.getElem?_cons_zero]
          rfl
        case hqb6 => exact fun _ _ _ h => h
        case hyb6 => exact Or.inl ⟨by kernel_rfl, fun w hSw => by go_simp⟩
        try simp only [Act.put, List.setIfInBounds_toArray, List.set_cons_zero, List.set_cons_succ]
        refine wpAnyH_take (i := 7) (oi := ?oib7) (v := .bool false) ?hib7 (by kernel_rfl) (by kernel_rfl) (by kernel_rfl) ?hqb7 ?hyb7 hHeld ?hrb7
        case hib7 =>
          simp only [List.getElem?_toArray, List.getElem?_cons_succ, List.getElem?_cons_zero]
          rfl
        case hqb7 => exact fun _ _ _ h => h
        case hyb7 => exact Or.inl ⟨by kernel_rfl, fun w hSw => by go_simp⟩
        try simp only [Act.put, List.setIfInBounds_toArray, List.set_cons_zero, List.set_cons_succ]
        refine wpAnyH_take (i := 8) (oi := ?oib8) (v := .slice (some ⟨gl, 0, none⟩) LL.length lc) ?hib8 (by kernel_rfl) (by kernel_rfl) (by kernel_rfl) ?hqb8 ?hyb8 hHeld ?hrb8
        case hib8 =>
          simp only [List.getElem?_toArray, List.getElem?_cons_succ, List.getElem?_cons_zero]
          rfl
        case hqb8 => exact fun _ _ _ h => h
        case hyb8 => exact Or.inl ⟨by kernel_rfl, fun w hSw => by go_simp⟩
        try simp only [Act.put, List.setIfInBounds_toArray, List.set_cons_zero, List.set_cons_succ]
        refine wpAnyH_take (i := 9) (oi := ?oib9) (v := .int .i64 (k : Int)) ?hib9 (by kernel_rfl) (by kernel_rfl) (by kernel_rfl) ?hqb9 ?hyb9 hHeld ?hrb9
        case hib9 =>
          simp only [List.getElem?_toArray, List.getElem?_cons_succ, List.getElem?_cons_zero]
          rfl
        case hqb9 => exact fun _ _ _ h => h
        case hyb9 => exact Or.inl ⟨by kernel_rfl, fun w hSw => by go_simp⟩
        try simp only [Act.put, List.setIfInBounds_toArray, List.set_cons_zero, List.set_cons_succ]
        refine wpAnyH_take (i := 10) (oi := ?oib10) (v := .pointer (some ⟨gl, k, none⟩)) ?hib10 (by kernel_rfl) (by kernel_rfl) (by kernel_rfl) ?hqb10 ?hyb10 hHeld ?hrb10
        case hib10 =>
          simp only [List.getElem?_toArray, List.getElem?_cons_succ, List.getElem?_cons_zero]
          rfl
        case hqb10 => exact fun _ _ _ h => h
        case hyb10 => exact Or.inl ⟨by kernel_rfl, fun w hSw => by go_simp⟩
        try simp only [Act.put, List.setIfInBounds_toArray, List.set_cons_zero, List.set_cons_succ]
        refine wpAnyH_take (i := 11) (oi := ?oib11) (v := .slice (some ⟨gk, 0, none⟩) n ck) ?hib11 (by kernel_rfl) (by kernel_rfl) (by kernel_rfl) ?hqb11 ?hyb11 hHeld ?hrb11
        case hib11 =>
          simp only [List.getElem?_toArray, List.getElem?_cons_succ, List.getElem?_cons_zero]
          rfl
        case hqb11 => exact fun _ _ _ h => h
        case hyb11 => exact Or.inl ⟨by kernel_rfl, fun w hSw => by (obtain ⟨s1, s2, s3, s4⟩ := hSw; go_simp)⟩
        try simp only [Act.put, List.setIfInBounds_toArray, List.set_cons_zero, List.set_cons_succ]
        refine wpAnyH_take (i := 12) (oi := ?oib12) (v := .slice (some ⟨gl, 0, none⟩) LL.length lc) ?hib12 (by kernel_rfl) (by kernel_rfl) (by kernel_rfl) ?hqb12 ?hyb12 hHeld ?hrb12
        case hib12 =>
          simp only [List.getElem?_toArray, List.getElem?_cons_succ, List.getElem?_cons_zero]
          rfl
        case hqb12 => exact fun _ _ _ h => h
        case hyb12 => exact Or.inl ⟨by kernel_rfl, fun w hSw => by go_simp⟩
        try simp only [Act.put, List.setIfInBounds_toArray, List.set_cons_zero, List.set_cons_succ]
        refine wpAnyH_take (i := 13) (oi := ?oib13) (v := .int .i64 (k : Int)) ?hib13 (by kernel_rfl) (by kernel_rfl) (by kernel_rfl) ?hqb13 ?hyb13 hHeld ?hrb13
        case hib13 =>
          simp only [List.getElem?_toArray, List.getElem?_cons_succ, List.getElem?_cons_zero]
          rfl
        case hqb13 => exact fun _ _ _ h => h
        case hyb13 => exact Or.inl ⟨by kernel_rfl, fun w hSw => by go_simp⟩
        try simp only [Act.put, List.setIfInBounds_toArray, List.set_cons_zero, List.set_cons_succ]
        refine wpAnyH_take (i := 14) (oi := ?oib14) (v := .pointer (some ⟨gl, k, none⟩)) ?hib14 (by kernel_rfl) (by kernel_rfl) (by kernel_rfl) ?hqb14 ?hyb14 hHeld ?hrb14
        case hib14 =>
          simp only [List.getElem?_toArray, List.getElem?_cons_succ, List.getElem?_cons_zero]
          rfl
        case hqb14 => exact fun _ _ _ h => h
        case hyb14 => exact Or.inl ⟨by kernel_rfl, fun w hSw => by go_simp⟩
        try simp only [Act.put, List.setIfInBounds_toArray, List.set_cons_zero, List.set_cons_succ]
        refine wpAnyH_take (i := 15) (oi := ?oib15) (v := .slice (some ⟨gk, 0, none⟩) n ck) ?hib15 (by kernel_rfl) (by kernel_rfl) (by kernel_rfl) ?hqb15 ?hyb15 hHeld ?hrb15
        case hib15 =>
          simp only [List.getElem?_toArray, List.getElem?_cons_succ, List.getElem?_cons_zero]
          rfl
        case hqb15 => exact fun _ _ _ h => h
        case hyb15 => exact Or.inl ⟨by kernel_rfl, fun w hSw => by (obtain ⟨s1, s2, s3, s4⟩ := hSw; go_simp)⟩
        try simp only [Act.put, List.setIfInBounds_toArray, List.set_cons_zero, List.set_cons_succ]
        refine wpAnyH_take (i := 16) (oi := ?oib16) (v := .int .i64 (n : Int)) ?hib16 (by kernel_rfl) (by kernel_rfl) (by kernel_rfl) ?hqb16 ?hyb16 hHeld ?hrb16
        case hib16 =>
          simp only [List.getElem?_toArray, List.getElem?_cons_succ, List.getElem?_cons_zero]
          rfl
        case hqb16 => exact fun _ _ _ h => h
        case hyb16 => exact Or.inl ⟨by kernel_rfl, fun w hSw => by go_simp⟩
        try simp only [Act.put, List.setIfInBounds_toArray, List.set_cons_zero, List.set_cons_succ]
        refine wpAnyH_take (i := 17) (oi := ?oib17) (v := .int .i64 ((n : Int) - 1)) ?hib17 (by kernel_rfl) (by kernel_rfl) (by kernel_rfl) ?hqb17 ?hyb17 hHeld ?hrb17
        case hib17 =>
          simp only [List.getElem?_toArray, List.getElem?_cons_succ, List.getElem?_cons_zero]
          rfl
        case hqb17 => exact fun _ _ _ h => h
        case hyb17 => exact Or.inl ⟨by kernel_rfl, fun w hSw => by go_simp⟩
        try simp only [Act.put, List.setIfInBounds_toArray, List.set_cons_zero, List.set_cons_succ]
        refine wpAnyH_take (i := 18) (oi := ?oib18) (v := .pointer (some ⟨gk, n - 1, none⟩)) ?hib18 (by kernel_rfl) (by kernel_rfl) (by kernel_rfl) ?hqb18 ?hyb18 hHeld ?hrb18
        case hib18 =>
          simp only [List.getElem?_toArray, List.getElem?_cons_succ, List.getElem?_cons_zero]
          rfl
        case hqb18 => exact fun _ _ _ h => h
        case hyb18 => exact Or.inl ⟨by kernel_rfl, fun w hSw => by go_simp⟩
        try simp only [Act.put, List.setIfInBounds_toArray, List.set_cons_zero, List.set_cons_succ]
        refine wpAnyH_take (i := 19) (oi := ?oib19) (v := .int .i64 at0) ?hib19 (by kernel_rfl) (by kernel_rfl) (by kernel_rfl) ?hqb19 ?hyb19 hHeld ?hrb19
        case hib19 =>
          simp only [List.getElem?_toArray, List.getElem?_cons_succ, List.getElem?_cons_zero]
          rfl
        case hqb19 => exact fun _ _ _ h => h
        case hyb19 => exact Or.inl ⟨by kernel_rfl, fun w hSw => by (obtain ⟨s1, s2, s3, s4⟩ := hSw; go_simp)⟩
        try simp only [Act.put, List.setIfInBounds_toArray, List.set_cons_zero, List.set_cons_succ]
        refine wpAnyH_take (i := 20) (oi := ?oib20) (v := .int .i64 at0) ?hib20 (by kernel_rfl) (by kernel_rfl) (by kernel_rfl) ?hqb20 ?hyb20 hHeld ?hrb20
        case hib20 =>
          simp only [List.getElem?_toArray, List.getElem?_cons_succ, List.getElem?_cons_zero]
          rfl
        case hqb20 => exact fun _ _ _ h => h
        case hyb20 => exact Or.inl ⟨by kernel_rfl, fun w hSw => by go_simp⟩
        try simp only [Act.put, List.setIfInBounds_toArray, List.set_cons_zero, List.set_cons_succ]
        refine wpAnyH_take (i := 21) (oi := ?oib21) (v := .bool false) ?hib21 (by kernel_rfl) (by kernel_rfl) (by kernel_rfl) ?hqb21 ?hyb21 hHeld ?hrb21
        case hib21 =>
          simp only [List.getElem?_toArray, List.getElem?_cons_succ, List.getElem?_cons_zero]
          rfl
        case hqb21 => exact fun _ _ _ h => h
        case hyb21 => exact Or.inl ⟨by kernel_rfl, fun w hSw => by go_simp⟩
        try simp only [Act.put, List.setIfInBounds_toArray, List.set_cons_zero, List.set_cons_succ]
        refine wpAnyH_take (i := 22) (oi := ?oib22) (v := .bool false) ?hib22 (by kernel_rfl) (by kernel_rfl) (by kernel_rfl) ?hqb22 ?hyb22 hHeld ?hrb22
        case hib22 =>
          simp only [List.getElem?_toArray, List.getElem?_cons_succ, List.getElem?_cons_zero]
          rfl
        case hqb22 => exact fun _ _ _ h => h
        case hyb22 => exact Or.inl ⟨by kernel_rfl, fun w hSw => by go_simp⟩
        try simp only [Act.put, List.setIfInBounds_toArray, List.set_cons_zero, List.set_cons_succ]
        refine wpAnyH_take (i := 23) (oi := ?oib23) (v := .bool false) ?hib23 (by kernel_rfl) (by kernel_rfl) (by kernel_rfl) ?hqb23 ?hyb23 hHeld ?hrb23
        case hib23 =>
          simp only [List.getElem?_toArray, List.getElem?_cons_succ, List.getElem?_cons_zero]
          rfl
        case hqb23 => exact fun _ _ _ h => h
        case hyb23 => exact Or.inl ⟨by kernel_rfl, fun w hSw => by go_simp⟩
        try simp only [Act.put, List.setIfInBounds_toArray, List.set_cons_zero, List.set_cons_succ]
        refine wpAnyH_take (i := 24) (oi := ?oib24) (v := .slice (some ⟨gl, 0, none⟩) LL.length lc) ?hib24 (by kernel_rfl) (by kernel_rfl) (by kernel_rfl) ?hqb24 ?hyb24 hHeld ?hrb24
        case hib24 =>
          simp only [List.getElem?_toArray, List.getElem?_cons_succ, List.getElem?_cons_zero]
          rfl
        case hqb24 => exact fun _ _ _ h => h
        case hyb24 => exact Or.inl ⟨by kernel_rfl, fun w hSw => by go_simp⟩
        try simp only [Act.put, List.setIfInBounds_toArray, List.set_cons_zero, List.set_cons_succ]
        refine wpAnyH_take (i := 25) (oi := ?oib25) (v := .int .i64 (k : Int)) ?hib25 (by kernel_rfl) (by kernel_rfl) (by kernel_rfl) ?hqb25 ?hyb25 hHeld ?hrb25
        case hib25 =>
          simp only [List.getElem?_toArray, List.getElem?_cons_succ, List.getElem?_cons_zero]
          rfl
        case hqb25 => exact fun _ _ _ h => h
        case hyb25 => exact Or.inl ⟨by kernel_rfl, fun w hSw => by go_simp⟩
        try simp only [Act.put, List.setIfInBounds_toArray, List.set_cons_zero, List.set_cons_succ]
        refine wpAnyH_take (i := 26) (oi := ?oib26) (v := .pointer (some ⟨gl, k, none⟩)) ?hib26 (by kernel_rfl) (by kernel_rfl) (by kernel_rfl) ?hqb26 ?hyb26 hHeld ?hrb26
        case hib26 =>
          simp only [List.getElem?_toArray, List.getElem?_cons_succ, List.getElem?_cons_zero]
          rfl
        case hqb26 => exact fun _ _ _ h => h
        case hyb26 => exact Or.inl ⟨by kernel_rfl, fun w hSw => by go_simp⟩
        try simp only [Act.put, List.setIfInBounds_toArray, List.set_cons_zero, List.set_cons_succ]
        refine wpAnyH_take (i := 27) (oi := ?oib27) (v := .slice (some ⟨gk, 0, none⟩) n ck) ?hib27 (by kernel_rfl) (by kernel_rfl) (by kernel_rfl) ?hqb27 ?hyb27 hHeld ?hrb27
        case hib27 =>
          simp only [List.getElem?_toArray, List.getElem?_cons_succ, List.getElem?_cons_zero]
          rfl
        case hqb27 => exact fun _ _ _ h => h
        case hyb27 => exact Or.inl ⟨by kernel_rfl, fun w hSw => by (obtain ⟨s1, s2, s3, s4⟩ := hSw; go_simp)⟩
        try simp only [Act.put, List.setIfInBounds_toArray, List.set_cons_zero, List.set_cons_succ]
        refine wpAnyH_take (i := 28) (oi := ?oib28) (v := .int .i64 (n : Int)) ?hib28 (by kernel_rfl) (by kernel_rfl) (by kernel_rfl) ?hqb28 ?hyb28 hHeld ?hrb28
        case hib28 =>
          simp only [List.getElem?_toArray, List.getElem?_cons_succ, List.getElem?_cons_zero]
          rfl
        case hqb28 => exact fun _ _ _ h => h
        case hyb28 => exact Or.inl ⟨by kernel_rfl, fun w hSw => by go_simp⟩
        try simp only [Act.put, List.setIfInBounds_toArray, List.set_cons_zero, List.set_cons_succ]
        refine wpAnyH_take (i := 29) (oi := ?oib29) (v := .int .i64 most) ?hib29 (by kernel_rfl) (by kernel_rfl) (by kernel_rfl) ?hqb29 ?hyb29 hHeld ?hrb29
        case hib29 =>
          simp only [List.getElem?_toArray, List.getElem?_cons_succ, List.getElem?_cons_zero]
          rfl
        case hqb29 => exact fun _ _ _ h => h
        case hyb29 => exact Or.inl ⟨by kernel_rfl, fun w hSw => by go_simp⟩
        try simp only [Act.put, List.setIfInBounds_toArray, List.set_cons_zero, List.set_cons_succ]
        refine wpAnyH_take (i := 30) (oi := ?oib30) (v := .bool false) ?hib30 (by kernel_rfl) (by kernel_rfl) (by kernel_rfl) ?hqb30 ?hyb30 hHeld ?hrb30
        case hib30 =>
          simp only [List.getElem?_toArray, List.getElem?_cons_succ, List.getElem?_cons_zero]
          rfl
        case hqb30 => exact fun _ _ _ h => h
        case hyb30 => exact Or.inl ⟨by kernel_rfl, fun w hSw => by go_simp⟩
        try simp only [Act.put, List.setIfInBounds_toArray, List.set_cons_zero, List.set_cons_succ]
        refine wpAnyH_take (i := 31) (oi := ?oib31) (v := .bool false) ?hib31 (by kernel_rfl) (by kernel_rfl) (by kernel_rfl) ?hqb31 ?hyb31 hHeld ?hrb31
        case hib31 =>
          simp only [List.getElem?_toArray, List.getElem?_cons_succ, List.getElem?_cons_zero]
          rfl
        case hqb31 => exact fun _ _ _ h => h
        case hyb31 => exact Or.inl ⟨by kernel_rfl, fun w hSw => by go_simp⟩
        try simp only [Act.put, List.setIfInBounds_toArray, List.set_cons_zero, List.set_cons_succ]
        refine wpAnyH_take (i := 32) (oi := ?oib32) (v := .bool false) ?hib32 (by kernel_rfl) (by kernel_rfl) (by kernel_rfl) ?hqb32 ?hyb32 hHeld ?hrb32
        case hib32 =>
          simp only [List.getElem?_toArray, List.getElem?_cons_succ, List.getElem?_cons_zero]
          rfl
        case hqb32 => exact fun _ _ _ h => h
        case hyb32 => exact Or.inl ⟨by kernel_rfl, fun w hSw => by go_simp⟩
        try simp only [Act.put, List.setIfInBounds_toArray, List.set_cons_zero, List.set_cons_succ]
        refine wpAnyH_take (i := 33) (oi := ?oib33) (v := .int .i64 (k : Int)) ?hib33 (by kernel_rfl) (by kernel_rfl) (by kernel_rfl) ?hqb33 ?hyb33 hHeld ?hrb33
        case hib33 =>
          simp only [List.getElem?_toArray, List.getElem?_cons_succ, List.getElem?_cons_zero]
          rfl
        case hqb33 => exact fun _ _ _ h => h
        case hyb33 => exact Or.inl ⟨by kernel_rfl, fun w hSw => by go_simp⟩
        try simp only [Act.put, List.setIfInBounds_toArray, List.set_cons_zero, List.set_cons_succ]
        refine wpAnyH_take (i := 34) (oi := ?oib34) (v := .bool true) ?hib34 (by kernel_rfl) (by kernel_rfl) (by kernel_rfl) ?hqb34 ?hyb34 hHeld ?hrb34
        case hib34 =>
          simp only [List.getElem?_toArray, List.getElem?_cons_succ, List.getElem?_cons_zero]
          rfl
        case hqb34 => exact fun _ _ _ h => h
        case hyb34 => exact Or.inl ⟨by kernel_rfl, fun w hSw => by go_simp⟩
        try simp only [Act.put, List.setIfInBounds_toArray, List.set_cons_zero, List.set_cons_succ]
        refine wpAnyH_take (i := 35) (oi := ?oib35) (v := .bool true) ?hib35 (by kernel_rfl) (by kernel_rfl) (by kernel_rfl) ?hqb35 ?hyb35 hHeld ?hrb35
        case hib35 =>
          simp only [List.getElem?_toArray, List.getElem?_cons_succ, List.getElem?_cons_zero]
          rfl
        case hqb35 => exact fun _ _ _ h => h
        case hyb35 => exact Or.inl ⟨by kernel_rfl, fun w hSw => by go_simp⟩
        try simp only [Act.put, List.setIfInBounds_toArray, List.set_cons_zero, List.set_cons_succ]
        refine wpAnyH_take (i := 36) (oi := ?oib36) (v := .slice (some ⟨gl, 0, none⟩) LL.length lc) ?hib36 (by kernel_rfl) (by kernel_rfl) (by kernel_rfl) ?hqb36 ?hyb36 hHeld ?hrb36
        case hib36 =>
          simp only [List.getElem?_toArray, List.getElem?_cons_succ, List.getElem?_cons_zero]
          rfl
        case hqb36 => exact fun _ _ _ h => h
        case hyb36 => exact Or.inl ⟨by kernel_rfl, fun w hSw => by go_simp⟩
        try simp only [Act.put, List.setIfInBounds_toArray, List.set_cons_zero, List.set_cons_succ]
        refine wpAnyH_take (i := 37) (oi := ?oib37) (v := .int .i64 (k : Int)) ?hib37 (by kernel_rfl) (by kernel_rfl) (by kernel_rfl) ?hqb37 ?hyb37 hHeld ?hrb37
        case hib37 =>
          simp only [List.getElem?_toArray, List.getElem?_cons_succ, List.getElem?_cons_zero]
          rfl
        case hqb37 => exact fun _ _ _ h => h
        case hyb37 => exact Or.inl ⟨by kernel_rfl, fun w hSw => by go_simp⟩
        try simp only [Act.put, List.setIfInBounds_toArray, List.set_cons_zero, List.set_cons_succ]
        refine wpAnyH_take (i := 38) (oi := ?oib38) (v := .pointer (some ⟨gl, k, none⟩)) ?hib38 (by kernel_rfl) (by kernel_rfl) (by kernel_rfl) ?hqb38 ?hyb38 hHeld ?hrb38
        case hib38 =>
          simp only [List.getElem?_toArray, List.getElem?_cons_succ, List.getElem?_cons_zero]
          rfl
        case hqb38 => exact fun _ _ _ h => h
        case hyb38 => exact Or.inl ⟨by kernel_rfl, fun w hSw => by go_simp⟩
        try simp only [Act.put, List.setIfInBounds_toArray, List.set_cons_zero, List.set_cons_succ]
        refine wpAnyH_take (i := 39) (oi := ?oib39) (v := .slice (some ⟨gk, 0, none⟩) n ck) ?hib39 (by kernel_rfl) (by kernel_rfl) (by kernel_rfl) ?hqb39 ?hyb39 hHeld ?hrb39
        case hib39 =>
          simp only [List.getElem?_toArray, List.getElem?_cons_succ, List.getElem?_cons_zero]
          rfl
        case hqb39 => exact fun _ _ _ h => h
        case hyb39 => exact Or.inl ⟨by kernel_rfl, fun w hSw => by (obtain ⟨s1, s2, s3, s4⟩ := hSw; go_simp)⟩
        try simp only [Act.put, List.setIfInBounds_toArray, List.set_cons_zero, List.set_cons_succ]
        refine wpAnyH_take (i := 40) (oi := ?oib40) (v := .int .i64 (n : Int)) ?hib40 (by kernel_rfl) (by kernel_rfl) (by kernel_rfl) ?hqb40 ?hyb40 hHeld ?hrb40
        case hib40 =>
          simp only [List.getElem?_toArray, List.getElem?_cons_succ, List.getElem?_cons_zero]
          rfl
        case hqb40 => exact fun _ _ _ h => h
        case hyb40 => exact Or.inl ⟨by kernel_rfl, fun w hSw => by go_simp⟩
        try simp only [Act.put, List.setIfInBounds_toArray, List.set_cons_zero, List.set_cons_succ]
        refine wpAnyH_take (i := 41) (oi := ?oib41) (v := .slice (some ⟨gl, 0, none⟩) LL.length lc) ?hib41 (by kernel_rfl) (by kernel_rfl) (by kernel_rfl) ?hqb41 ?hyb41 hHeld ?hrb41
        case hib41 =>
          simp only [List.getElem?_toArray, List.getElem?_cons_succ, List.getElem?_cons_zero]
          rfl
        case hqb41 => exact fun _ _ _ h => h
        case hyb41 => exact Or.inl ⟨by kernel_rfl, fun w hSw => by go_simp⟩
        try simp only [Act.put, List.setIfInBounds_toArray, List.set_cons_zero, List.set_cons_succ]
        refine wpAnyH_take (i := 42) (oi := ?oib42) (v := .int .i64 (k : Int)) ?hib42 (by kernel_rfl) (by kernel_rfl) (by kernel_rfl) ?hqb42 ?hyb42 hHeld ?hrb42
        case hib42 =>
          simp only [List.getElem?_toArray, List.getElem?_cons_succ, List.getElem?_cons_zero]
          rfl
        case hqb42 => exact fun _ _ _ h => h
        case hyb42 => exact Or.inl ⟨by kernel_rfl, fun w hSw => by go_simp⟩
        try simp only [Act.put, List.setIfInBounds_toArray, List.set_cons_zero, List.set_cons_succ]
        refine wpAnyH_take (i := 43) (oi := ?oib43) (v := .int .i64 ((k : Int) - 1)) ?hib43 (by kernel_rfl) (by kernel_rfl) (by kernel_rfl) ?hqb43 ?hyb43 hHeld ?hrb43
        case hib43 =>
          simp only [List.getElem?_toArray, List.getElem?_cons_succ, List.getElem?_cons_zero]
          rfl
        case hqb43 => exact fun _ _ _ h => h
        case hyb43 => exact Or.inl ⟨by kernel_rfl, fun w hSw => by go_simp⟩
        try simp only [Act.put, List.setIfInBounds_toArray, List.set_cons_zero, List.set_cons_succ]
        refine wpAnyH_take (i := 44) (oi := ?oib44) (v := .pointer (some ⟨gl, k - 1, none⟩)) ?hib44 (by kernel_rfl) (by kernel_rfl) (by kernel_rfl) ?hqb44 ?hyb44 hHeld ?hrb44
        case hib44 =>
          simp only [List.getElem?_toArray, List.getElem?_cons_succ, List.getElem?_cons_zero]
          rfl
        case hqb44 => exact fun _ _ _ h => h
        case hyb44 => exact Or.inl ⟨by kernel_rfl, fun w hSw => by go_simp⟩
        try simp only [Act.put, List.setIfInBounds_toArray, List.set_cons_zero, List.set_cons_succ]
        refine wpAnyH_take (i := 45) (oi := ?oib45) (v := (.slice gp n' cp)) ?hib45 (by kernel_rfl) (by kernel_rfl) (by kernel_rfl) ?hqb45 ?hyb45 hHeld ?hrb45
        case hib45 =>
          simp only [List.getElem?_toArray, List.getElem?_cons_succ, List.getElem?_cons_zero]
          rfl
        case hqb45 => exact fun _ _ _ h => h
        case hyb45 => exact Or.inl ⟨by kernel_rfl, fun w hSw => by (obtain ⟨s1, s2, s3, s4⟩ := hSw; go_simp)⟩
        try simp only [Act.put, List.setIfInBounds_toArray, List.set_cons_zero, List.set_cons_succ]
        refine wpAnyH_take (i := 46) (oi := ?oib46) (v := (.int .i64 (n' : Int))) ?hib46 (by kernel_rfl) (by kernel_rfl) (by kernel_rfl) ?hqb46 ?hyb46 hHeld ?hrb46
        case hib46 =>
          simp only [List.getElem?_toArray, List.getElem?_cons_succ, List.getElem?_cons_zero]
          rfl
        case hqb46 => exact fun _ _ _ h => h
        case hyb46 => exact Or.inl ⟨by kernel_rfl, fun w hSw => by go_simp⟩
        try simp only [Act.put, List.setIfInBounds_toArray, List.set_cons_zero, List.set_cons_succ]
        refine wpAnyH_take (i := 47) (oi := ?oib47) (v := .bool false) ?hib47 (by kernel_rfl) (by kernel_rfl) (by kernel_rfl) ?hqb47 ?hyb47 hHeld ?hrb47
        case hib47 =>
          simp only [List.getElem?_toArray, List.getElem?_cons_succ, List.getElem?_cons_zero]
          rfl
        case hqb47 => exact fun _ _ _ h => h
        case hyb47 => exact Or.inl ⟨by kernel_rfl, fun w hSw => by go_simp⟩
        try simp only [Act.put, List.setIfInBounds_toArray, List.set_cons_zero, List.set_cons_succ]
        refine wpAnyH_take (i := 48) (oi := ?oib48) (v := .bool false) ?hib48 (by kernel_rfl) (by kernel_rfl) (by kernel_rfl) ?hqb48 ?hyb48 hHeld ?hrb48
        case hib48 =>
          simp only [List.getElem?_toArray, List.getElem?_cons_succ, List.getElem?_cons_zero]
          rfl
        case hqb48 => exact fun _ _ _ h => h
        case hyb48 => exact Or.inl ⟨by kernel_rfl, fun w hSw => by go_simp⟩
        try simp only [Act.put, List.setIfInBounds_toArray, List.set_cons_zero, List.set_cons_succ]
        refine wpAnyH_take (i := 49) (oi := ?oib49) (v := .slice (some ⟨gl, 0, none⟩) LL.length lc) ?hib49 (by kernel_rfl) (by kernel_rfl) (by kernel_rfl) ?hqb49 ?hyb49 hHeld ?hrb49
        case hib49 =>
          simp only [List.getElem?_toArray, List.getElem?_cons_succ, List.getElem?_cons_zero]
          rfl
        case hqb49 => exact fun _ _ _ h => h
        case hyb49 => exact Or.inl ⟨by kernel_rfl, fun w hSw => by go_simp⟩
        try simp only [Act.put, List.setIfInBounds_toArray, List.set_cons_zero, List.set_cons_succ]
        refine wpAnyH_take (i := 50) (oi := ?oib50) (v := .int .i64 (k : Int)) ?hib50 (by kernel_rfl) (by kernel_rfl) (by kernel_rfl) ?hqb50 ?hyb50 hHeld ?hrb50
        case hib50 =>
          simp only [List.getElem?_toArray, List.getElem?_cons_succ, List.getElem?_cons_zero]
          rfl
        case hqb50 => exact fun _ _ _ h => h
        case hyb50 => exact Or.inl ⟨by kernel_rfl, fun w hSw => by go_simp⟩
        try simp only [Act.put, List.setIfInBounds_toArray, List.set_cons_zero, List.set_cons_succ]
        refine wpAnyH_take (i := 51) (oi := ?oib51) (v := .pointer (some ⟨gl, k, none⟩)) ?hib51 (by kernel_rfl) (by kernel_rfl) (by kernel_rfl) ?hqb51 ?hyb51 hHeld ?hrb51
        case hib51 =>
          simp only [List.getElem?_toArray, List.getElem?_cons_succ, List.getElem?_cons_zero]
          rfl
        case hqb51 => exact fun _ _ _ h => h
        case hyb51 => exact Or.inl ⟨by kernel_rfl, fun w hSw => by go_simp⟩
        try simp only [Act.put, List.setIfInBounds_toArray, List.set_cons_zero, List.set_cons_succ]
        refine wpAnyH_take (i := 52) (oi := ?oib52) (v := .slice (some ⟨gk, 0, none⟩) n ck) ?hib52 (by kernel_rfl) (by kernel_rfl) (by kernel_rfl) ?hqb52 ?hyb52 hHeld ?hrb52
        case hib52 =>
          simp only [List.getElem?_toArray, List.getElem?_cons_succ, List.getElem?_cons_zero]
          rfl
        case hqb52 => exact fun _ _ _ h => h
        case hyb52 => exact Or.inl ⟨by kernel_rfl, fun w hSw => by (obtain ⟨s1, s2, s3, s4⟩ := hSw; go_simp)⟩
        try simp only [Act.put, List.setIfInBounds_toArray, List.set_cons_zero, List.set_cons_succ]
        refine wpAnyH_take (i := 53) (oi := ?oib53) (v := .slice (some ⟨gl, 0, none⟩) LL.length lc) ?hib53 (by kernel_rfl) (by kernel_rfl) (by kernel_rfl) ?hqb53 ?hyb53 hHeld ?hrb53
        case hib53 =>
          simp only [List.getElem?_toArray, List.getElem?_cons_succ, List.getElem?_cons_zero]
          rfl
        case hqb53 => exact fun _ _ _ h => h
        case hyb53 => exact Or.inl ⟨by kernel_rfl, fun w hSw => by go_simp⟩
        try simp only [Act.put, List.setIfInBounds_toArray, List.set_cons_zero, List.set_cons_succ]
        refine wpAnyH_take (i := 54) (oi := ?oib54) (v := .int .i64 (k : Int)) ?hib54 (by kernel_rfl) (by kernel_rfl) (by kernel_rfl) ?hqb54 ?hyb54 hHeld ?hrb54
        case hib54 =>
          simp only [List.getElem?_toArray, List.getElem?_cons_succ, List.getElem?_cons_zero]
          rfl
        case hqb54 => exact fun _ _ _ h => h
        case hyb54 => exact Or.inl ⟨by kernel_rfl, fun w hSw => by go_simp⟩
        try simp only [Act.put, List.setIfInBounds_toArray, List.set_cons_zero, List.set_cons_succ]
        refine wpAnyH_take (i := 55) (oi := ?oib55) (v := .int .i64 ((k : Int) - 1)) ?hib55 (by kernel_rfl) (by kernel_rfl) (by kernel_rfl) ?hqb55 ?hyb55 hHeld ?hrb55
        case hib55 =>
          simp only [List.getElem?_toArray, List.getElem?_cons_succ, List.getElem?_cons_zero]
          rfl
        case hqb55 => exact fun _ _ _ h => h
        case hyb55 => exact Or.inl ⟨by kernel_rfl, fun w hSw => by go_simp⟩
        try simp only [Act.put, List.setIfInBounds_toArray, List.set_cons_zero, List.set_cons_succ]
        refine wpAnyH_take (i := 56) (oi := ?oib56) (v := .pointer (some ⟨gl, k - 1, none⟩)) ?hib56 (by kernel_rfl) (by kernel_rfl) (by kernel_rfl) ?hqb56 ?hyb56 hHeld ?hrb56
        case hib56 =>
          simp only [List.getElem?_toArray, List.getElem?_cons_succ, List.getElem?_cons_zero]
          rfl
        case hqb56 => exact fun _ _ _ h => h
        case hyb56 => exact Or.inl ⟨by kernel_rfl, fun w hSw => by go_simp⟩
        try simp only [Act.put, List.setIfInBounds_toArray, List.set_cons_zero, List.set_cons_succ]
        refine wpAnyH_take (i := 57) (oi := ?oib57) (v := (.slice gp n' cp)) ?hib57 (by kernel_rfl) (by kernel_rfl) (by kernel_rfl) ?hqb57 ?hyb57 hHeld ?hrb57
        case hib57 =>
          simp only [List.getElem?_toArray, List.getElem?_cons_succ, List.getElem?_cons_zero]
          rfl
        case hqb57 => exact fun _ _ _ h => h
        case hyb57 => exact Or.inl ⟨by kernel_rfl, fun w hSw => by (obtain ⟨s1, s2, s3, s4⟩ := hSw; go_simp)⟩
        try simp only [Act.put, List.setIfInBounds_toArray, List.set_cons_zero, List.set_cons_succ]
        refine wpAnyH_ready (rs := [58]) (by kernel_rfl) (by simp) ?_
        refine AllReadyH.cons (o := ?oob58) ?hob58 (fun K hK => ?_) AllReadyH.nil
        case hob58 =>
          simp only [List.getElem?_toArray, List.getElem?_cons_succ, List.getElem?_cons_zero]
          rfl
        go_simp
        go_at_call 12
        refine (hLk _ M5).mono ?_
        rintro e w6 ⟨rfl, b6⟩
        have M6 : Below wb.heap.size wb w6 := M5.trans (b6.mono M5.size)
        obtain ⟨hc6, hf6⟩ := bcell M6
        go_wp2_with fail
        refine hK.out _ _ ⟨(hc6 _ _ hXl).trans c1, (hc6 _ _ gB).trans q0, (hc6 _ _ gB1).trans q1, (hc6 _ _ gB2).trans q2⟩ (fun hHeld => ?_)
        clear hK K
        try simp only [Act.put, List.setIfInBounds_toArray, List.set_cons_zero, List.set_cons_succ]
        refine wpAnyH_take (i := 59) (oi := ?oib59) (v := .bool false) ?hib59 (by kernel_rfl) (by kernel_rfl) (by kernel_rfl) ?hqb59 ?hyb59 hHeld ?hrb59
        case hib59 =>
          simp only [List.getElem?_toArray, List.getElem?_cons_succ, List.getElem?_cons_zero]
          rfl
        case hqb59 => exact fun _ _ _ h => h
        case hyb59 => exact Or.inl ⟨by kernel_rfl, fun w hSw => by go_simp⟩
        try simp only [Act.put, List.setIfInBounds_toArray, List.set_cons_zero, List.set_cons_succ]
        refine wpAnyH_take (i := 60) (oi := ?oib60) (v := .bool false) ?hib60 (by kernel_rfl) (by kernel_rfl) (by kernel_rfl) ?hqb60 ?hyb60 hHeld ?hrb60
        case hib60 =>
          simp only [List.getElem?_toArray, List.getElem?_cons_succ, List.getElem?_cons_zero]
          rfl
        case hqb60 => exact fun _ _ _ h => h
        case hyb60 => exact Or.inl ⟨by kernel_rfl, fun w hSw => by go_simp⟩
        try simp only [Act.put, List.setIfInBounds_toArray, List.set_cons_zero, List.set_cons_succ]
        refine wpAnyH_take (i := 61) (oi := ?oib61) (v := .bool false) ?hib61 (by kernel_rfl) (by kernel_rfl) (by kernel_rfl) ?hqb61 ?hyb61 hHeld ?hrb61
        case hib61 =>
          simp only [List.getElem?_toArray, List.getElem?_cons_succ, List.getElem?_cons_zero]
          rfl
        case hqb61 => exact fun _ _ _ h => h
        case hyb61 => exact Or.inl ⟨by kernel_rfl, fun w hSw => by go_simp⟩
        try simp only [Act.put, List.setIfInBounds_toArray, List.set_cons_zero, List.set_cons_succ]
        refine wpAnyH_done (by kernel_rfl) ?_ _
        have DN := HD.out.step M6
        clear hHeld hc5 hf5 M5 b5 hc6 hf6 M6 b6
        go_wp2
        go_roundw
        case rel => exact ⟨k + 1, by omega, by go_num, DN⟩
        case measure => simp [intOf]; omega
    · have hkk : k = LL.length := by omega
      subst hkk
      obtain ⟨c1, f1⟩ := oneCell D.box
      have hXl := (Array.getElem?_eq_some_iff.1 D.box).1
      have hRr := fun W (hW : Below wb.heap.size wb W) => hiR (.slice ua ss.length uc) W hsl (reads3_below D.rd hW)
      have hSr := fun W (hW : Below wb.heap.size wb W) => hiS (.slice ua ss.length uc) W hsl (reads3_below D.rd hW)
      have hRm : R.length ≤ maxLen := by unfold maxLen; omega
      have hHr := fun v W (hr : Reads W v (ints R)) => lawHas R at0 v W hRm hr
      rw [any_memW] at hHr
      have Hs := H5.out
      have hs7 : ¬ (7 : Int) < (ss.length : Int) := by omega
      by_cases hL : LL.length = 0
      · have HD : Hid _ := D
        have hnL : ¬ (0 : Int) < (LL.length : Int) := by omega
        go_wp2_with fail
        refine wp_region_held_drew (S := fun _ => True) (by kernel_rfl) trivial (fun hHeld => ?_)
        refine wpAnyH_take (i := 0) (oi := ?oic0) (v := .slice la LL.length lc) ?hic0 (by kernel_rfl) (by kernel_rfl) (by kernel_rfl) ?hqc0 ?hyc0 hHeld ?hrc0
        case hic0 =>
          simp only [List.getElem?_toArray, List.getElem?_cons_succ, List.getElem?_cons_zero]
          rfl
        case hqc0 => exact fun _ _ _ h => h
        case hyc0 => exact Or.inl ⟨by kernel_rfl, fun w hSw => by go_simp⟩
        try simp only [Act.put, List.setIfInBounds_toArray, List.set_cons_zero, List.set_cons_succ]
        refine wpAnyH_take (i := 1) (oi := ?oic1) (v := .int .i64 (LL.length : Int)) ?hic1 (by kernel_rfl) (by kernel_rfl) (by kernel_rfl) ?hqc1 ?hyc1 hHeld ?hrc1
        case hic1 =>
          simp only [List.getElem?_toArray, List.getElem?_cons_succ, List.getElem?_cons_zero]
          rfl
        case hqc1 => exact fun _ _ _ h => h
        case hyc1 => exact Or.inl ⟨by kernel_rfl, fun w hSw => by go_simp⟩
        try simp only [Act.put, List.setIfInBounds_toArray, List.set_cons_zero, List.set_cons_succ]
        refine wpAnyH_take (i := 2) (oi := ?oic2) (v := .bool false) ?hic2 (by kernel_rfl) (by kernel_rfl) (by kernel_rfl) ?hqc2 ?hyc2 hHeld ?hrc2
        case hic2 =>
          simp only [List.getElem?_toArray, List.getElem?_cons_succ, List.getElem?_cons_zero]
          rfl
        case hqc2 => exact fun _ _ _ h => h
        case hyc2 => exact Or.inl ⟨by kernel_rfl, fun w hSw => by go_simp⟩
        try simp only [Act.put, List.setIfInBounds_toArray, List.set_cons_zero, List.set_cons_succ]
        refine wpAnyH_take (i := 3) (oi := ?oic3) (v := .bool false) ?hic3 (by kernel_rfl) (by kernel_rfl) (by kernel_rfl) ?hqc3 ?hyc3 hHeld ?hrc3
        case hic3 =>
          simp only [List.getElem?_toArray, List.getElem?_cons_succ, List.getElem?_cons_zero]
          rfl
        case hqc3 => exact fun _ _ _ h => h
        case hyc3 => exact Or.inl ⟨by kernel_rfl, fun w hSw => by go_simp⟩
        try simp only [Act.put, List.setIfInBounds_toArray, List.set_cons_zero, List.set_cons_succ]
        refine wpAnyH_take (i := 4) (oi := ?oic4) (v := undef) ?hic4 (by kernel_rfl) (by kernel_rfl) (by kernel_rfl) ?hqc4 ?hyc4 hHeld ?hrc4
        case hic4 =>
          simp only [List.getElem?_toArray, List.getElem?_cons_succ, List.getElem?_cons_zero]
          rfl
        case hqc4 => exact fun _ _ _ h => h
        case hyc4 => exact Or.inr ⟨by kernel_rfl, rfl⟩
        try simp only [Act.put, List.setIfInBounds_toArray, List.set_cons_zero, List.set_cons_succ]
        refine wpAnyH_take (i := 5) (oi := ?oic5) (v := undef) ?hic5 (by kernel_rfl) (by kernel_rfl) (by kernel_rfl) ?hqc5 ?hyc5 hHeld ?hrc5
        case hic5 =>
          simp only [List.getElem?_toArray, List.getElem?_cons_succ, List.getElem?_cons_zero]
          rfl
        case hqc5 => exact fun _ _ _ h => h
        case hyc5 => exact Or.inr ⟨by kernel_rfl, rfl⟩
        try simp only [Act.put, List.setIfInBounds_toArray, List.set_cons_zero, List.set_cons_succ]
        refine wpAnyH_take (i := 6) (oi := ?oic6) (v := undef) ?hic6 (by kernel_rfl) (by kernel_rfl) (by kernel_rfl) ?hqc6 ?hyc6 hHeld ?hrc6
        case hic6 =>
          simp only [List.getElem?_toArray, List.getElem?_cons_succ, List.getElem?_cons_zero]
          rfl
        case hqc6 => exact fun _ _ _ h => h
        case hyc6 => exact Or.inr ⟨by kernel_rfl, rfl⟩
        try simp only [Act.put, List.setIfInBounds_toArray, List.set_cons_zero, List.set_cons_succ]
        refine wpAnyH_take (i := 7) (oi := ?oic7) (v := undef) ?hic7 (by kernel_rfl) (by kernel_rfl) (by kernel_rfl) ?hqc7 ?hyc7 hHeld ?hrc7
        case hic7 =>
          simp only [List.getElem?_toArray, List.getElem?_cons_succ, List.getElem?_cons_zero]
          rfl
        case hqc7 => exact fun _ _ _ h => h
        case hyc7 => exact Or.inr ⟨by kernel_rfl, rfl⟩
        try simp only [Act.put, List.setIfInBounds_toArray, List.set_cons_zero, List.set_cons_succ]
        refine wpAnyH_take (i := 8) (oi := ?oic8) (v := undef) ?hic8 (by kernel_rfl) (by kernel_rfl) (by kernel_rfl) ?hqc8 ?hyc8 hHeld ?hrc8
        case hic8 =>
          simp only [List.getElem?_toArray, List.getElem?_cons_succ, List.getElem?_cons_zero]
          rfl
        case hqc8 => exact fun _ _ _ h => h
        case hyc8 => exact Or.inr ⟨by kernel_rfl, rfl⟩
        try simp only [Act.put, List.setIfInBounds_toArray, List.set_cons_zero, List.set_cons_succ]
        refine wpAnyH_take (i := 9) (oi := ?oic9) (v := undef) ?hic9 (by kernel_rfl) (by kernel_rfl) (by kernel_rfl) ?hqc9 ?hyc9 hHeld ?hrc9
        case hic9 =>
          simp only [List.getElem?_toArray, List.getElem?_cons_succ, List.getElem?_cons_zero]
          rfl
        case hqc9 => exact fun _ _ _ h => h
        case hyc9 => exact Or.inr ⟨by kernel_rfl, rfl⟩
        try simp only [Act.put, List.setIfInBounds_toArray, List.set_cons_zero, List.set_cons_succ]
        refine wpAnyH_take (i := 10) (oi := ?oic10) (v := undef) ?hic10 (by kernel_rfl) (by kernel_rfl) (by kernel_rfl) ?hqc10 ?hyc10 hHeld ?hrc10
        case hic10 =>
          simp only [List.getElem?_toArray, List.getElem?_cons_succ, List.getElem?_cons_zero]
          rfl
        case hqc10 => exact fun _ _ _ h => h
        case hyc10 => exact Or.inr ⟨by kernel_rfl, rfl⟩
        try simp only [Act.put, List.setIfInBounds_toArray, List.set_cons_zero, List.set_cons_succ]
        refine wpAnyH_take (i := 11) (oi := ?oic11) (v := undef) ?hic11 (by kernel_rfl) (by kernel_rfl) (by kernel_rfl) ?hqc11 ?hyc11 hHeld ?hrc11
        case hic11 =>
          simp only [List.getElem?_toArray, List.getElem?_cons_succ, List.getElem?_cons_zero]
          rfl
        case hqc11 => exact fun _ _ _ h => h
        case hyc11 => exact Or.inr ⟨by kernel_rfl, rfl⟩
        try simp only [Act.put, List.setIfInBounds_toArray, List.set_cons_zero, List.set_cons_succ]
        refine wpAnyH_take (i := 12) (oi := ?oic12) (v := undef) ?hic12 (by kernel_rfl) (by kernel_rfl) (by kernel_rfl) ?hqc12 ?hyc12 hHeld ?hrc12
        case hic12 =>
          simp only [List.getElem?_toArray, List.getElem?_cons_succ, List.getElem?_cons_zero]
          rfl
        case hqc12 => exact fun _ _ _ h => h
        case hyc12 => exact Or.inr ⟨by kernel_rfl, rfl⟩
        try simp only [Act.put, List.setIfInBounds_toArray, List.set_cons_zero, List.set_cons_succ]
        refine wpAnyH_take (i := 13) (oi := ?oic13) (v := undef) ?hic13 (by kernel_rfl) (by kernel_rfl) (by kernel_rfl) ?hqc13 ?hyc13 hHeld ?hrc13
        case hic13 =>
          simp only [List.getElem?_toArray, List.getElem?_cons_succ, List.getElem?_cons_zero]
          rfl
        case hqc13 => exact fun _ _ _ h => h
        case hyc13 => exact Or.inr ⟨by kernel_rfl, rfl⟩
        try simp only [Act.put, List.setIfInBounds_toArray, List.set_cons_zero, List.set_cons_succ]
        refine wpAnyH_take (i := 14) (oi := ?oic14) (v := undef) ?hic14 (by kernel_rfl) (by kernel_rfl) (by kernel_rfl) ?hqc14 ?hyc14 hHeld ?hrc14
        case hic14 =>
          simp only [List.getElem?_toArray, List.getElem?_cons_succ, List.getElem?_cons_zero]
          rfl
        case hqc14 => exact fun _ _ _ h => h
        case hyc14 => exact Or.inr ⟨by kernel_rfl, rfl⟩
        try simp only [Act.put, List.setIfInBounds_toArray, List.set_cons_zero, List.set_cons_succ]
        refine wpAnyH_take (i := 15) (oi := ?oic15) (v := undef) ?hic15 (by kernel_rfl) (by kernel_rfl) (by kernel_rfl) ?hqc15 ?hyc15 hHeld ?hrc15
        case hic15 =>
          simp only [List.getElem?_toArray, List.getElem?_cons_succ, List.getElem?_cons_zero]
          rfl
        case hqc15 => exact fun _ _ _ h => h
        case hyc15 => exact Or.inr ⟨by kernel_rfl, rfl⟩
        try simp only [Act.put, List.setIfInBounds_toArray, List.set_cons_zero, List.set_cons_succ]
        refine wpAnyH_take (i := 16) (oi := ?oic16) (v := undef) ?hic16 (by kernel_rfl) (by kernel_rfl) (by kernel_rfl) ?hqc16 ?hyc16 hHeld ?hrc16
        case hic16 =>
          simp only [List.getElem?_toArray, List.getElem?_cons_succ, List.getElem?_cons_zero]
          rfl
        case hqc16 => exact fun _ _ _ h => h
        case hyc16 => exact Or.inr ⟨by kernel_rfl, rfl⟩
        try simp only [Act.put, List.setIfInBounds_toArray, List.set_cons_zero, List.set_cons_succ]
        refine wpAnyH_take (i := 17) (oi := ?oic17) (v := undef) ?hic17 (by kernel_rfl) (by kernel_rfl) (by kernel_rfl) ?hqc17 ?hyc17 hHeld ?hrc17
        case hic17 =>
          simp only [List.getElem?_toArray, List.getElem?_cons_succ, List.getElem?_cons_zero]
          rfl
        case hqc17 => exact fun _ _ _ h => h
        case hyc17 => exact Or.inr ⟨by kernel_rfl, rfl⟩
        try simp only [Act.put, List.setIfInBounds_toArray, List.set_cons_zero, List.set_cons_succ]
        refine wpAnyH_take (i := 18) (oi := ?oic18) (v := undef) ?hic18 (by kernel_rfl) (by kernel_rfl) (by kernel_rfl) ?hqc18 ?hyc18 hHeld ?hrc18
        case hic18 =>
          simp only [List.getElem?_toArray, List.getElem?_cons_succ, List.getElem?_cons_zero]
          rfl
        case hqc18 => exact fun _ _ _ h => h
        case hyc18 => exact Or.inr ⟨by kernel_rfl, rfl⟩
        try simp only [Act.put, List.setIfInBounds_toArray, List.set_cons_zero, List.set_cons_succ]
        refine wpAnyH_take (i := 19) (oi := ?oic19) (v := .bool false) ?hic19 (by kernel_rfl) (by kernel_rfl) (by kernel_rfl) ?hqc19 ?hyc19 hHeld ?hrc19
        case hic19 =>
          simp only [List.getElem?_toArray, List.getElem?_cons_succ, List.getElem?_cons_zero]
          rfl
        case hqc19 => exact fun _ _ _ h => h
        case hyc19 => exact Or.inl ⟨by kernel_rfl, fun w hSw => by go_simp⟩
        try simp only [Act.put, List.setIfInBounds_toArray, List.set_cons_zero, List.set_cons_succ]
        refine wpAnyH_done (by kernel_rfl) ?_ _
        clear hHeld
        have DD := HD.out.step (wr' := wb.drew) (by go_grown)
        have MD : Below wb.heap.size wb wb.drew := by go_grown
        obtain ⟨c2, f2⟩ := oneCell DD.box
        by_cases hm7 : most = 7
        · have hin := Hs hm7
          subst hm7
          rw [decide_eq_false (fun h => by have := hin.2 h; omega)] at hHr
          go_wp2_with fail
          go_at_call 14
          refine (hRr _ MD).mono ?_
          rintro e w9 ⟨v9, rfl, own9, b9⟩
          have D9 := DD.step b9
          go_wp2_with fail
          go_at_call 13
          refine (hHr _ _ (reads_own own9)).mono ?_
          rintro e w10 ⟨rfl, b10⟩
          have D10 := D9.step b10
          clear D9 b9 own9 b10
          go_wp2
          go_ret
          exact ⟨rfl, D10.bl⟩
        · go_wp2
          go_ret
          exact ⟨rfl, DD.bl⟩
      · have hpL : (0 : Int) < (LL.length : Int) := by omega
        obtain ⟨gl, rfl⟩ : ∃ gl, la = some ⟨gl, 0, none⟩ := by
          rcases D.l.row.2 with ⟨h, e⟩ | ⟨b, c, d, h, _⟩
          · have hu := D.l.len
            rw [e] at hu
            simp at hu
            omega
          · simp at h
            exact ⟨b, h.1⟩
        have h0L : 0 < LL.length := by omega
        obtain ⟨u0, _, q0, ok0⟩ := D.l.at h0L
        obtain ⟨n0, hn0⟩ : ∃ n0, LL[0].length = n0 := ⟨_, rfl⟩
        rw [hn0] at ok0
        have hF : at0 ∈ R ∧ Sh = (n0 : Int) := by
          cases hLL2 : LL with
          | nil => rw [hLL2] at h0L; simp at h0L
          | cons x l =>
            obtain ⟨h1, h2⟩ := H3.out x l hLL2
            have hxn : x.length = n0 := by rw [← hn0]; simp [hLL2]
            refine ⟨(HR.out at0).2 ⟨?_, h1⟩, by rw [h2, hxn]⟩
            have hx : x ∈ waysAns ss at0 most := by rw [hLL, hLL2]; simp
            exact (waysAns_parts hx).1
        obtain ⟨hin0, rfl⟩ := hF
        rw [decide_eq_true hin0] at hHr
        obtain ⟨a0, c0, rfl⟩ : ∃ a0 c0, u0 = .slice a0 n0 c0 := by
          rcases ok0.2 with ⟨h, e⟩ | ⟨b, c, d, h, _⟩
          · exact ⟨none, 0, by rw [h, e]⟩
          · exact ⟨_, _, h⟩
        have gB := World.block_lt_of_cell? wb _ q0
        have HD : Hid _ := D
        have hHr' := hHr
        clear ok0
        go_wp2_with fail
        refine wp_region_held_drew (S := fun w' => w'.cell? ⟨w1.heap.size, 0, none⟩ = some (.slice ua ss.length uc) ∧ w'.cell? ⟨gl, 0, none⟩ = some (.slice a0 n0 c0)) (by kernel_rfl) ⟨c1, q0⟩ (fun hHeld => ?_)
        refine wpAnyH_take (i := 0) (oi := ?oid0) (v := .slice (some ⟨gl, 0, none⟩) LL.length lc) ?hid0 (by kernel_rfl) (by kernel_rfl) (by kernel_rfl) ?hqd0 ?hyd0 hHeld ?hrd0
        case hid0 =>
          simp only [List.getElem?_toArray, List.getElem?_cons_succ, List.getElem?_cons_zero]
          rfl
        case hqd0 => exact fun _ _ _ h => h
        case hyd0 => exact Or.inl ⟨by kernel_rfl, fun w hSw => by go_simp⟩
        try simp only [Act.put, List.setIfInBounds_toArray, List.set_cons_zero, List.set_cons_succ]
        refine wpAnyH_take (i := 1) (oi := ?oid1) (v := .int .i64 (LL.length : Int)) ?hid1 (by kernel_rfl) (by kernel_rfl) (by kernel_rfl) ?hqd1 ?hyd1 hHeld ?hrd1
        case hid1 =>
          simp only [List.getElem?_toArray, List.getElem?_cons_succ, List.getElem?_cons_zero]
          rfl
        case hqd1 => exact fun _ _ _ h => h
        case hyd1 => exact Or.inl ⟨by kernel_rfl, fun w hSw => by go_simp⟩
        try simp only [Act.put, List.setIfInBounds_toArray, List.set_cons_zero, List.set_cons_succ]
        refine wpAnyH_take (i := 2) (oi := ?oid2) (v := .bool true) ?hid2 (by kernel_rfl) (by kernel_rfl) (by kernel_rfl) ?hqd2 ?hyd2 hHeld ?hrd2
        case hid2 =>
          simp only [List.getElem?_toArray, List.getElem?_cons_succ, List.getElem?_cons_zero]
          rfl
        case hqd2 => exact fun _ _ _ h => h
        case hyd2 => exact Or.inl ⟨by kernel_rfl, fun w hSw => by go_simp⟩
        try simp only [Act.put, List.setIfInBounds_toArray, List.set_cons_zero, List.set_cons_succ]
        refine wpAnyH_take (i := 3) (oi := ?oid3) (v := .bool true) ?hid3 (by kernel_rfl) (by kernel_rfl) (by kernel_rfl) ?hqd3 ?hyd3 hHeld ?hrd3
        case hid3 =>
          simp only [List.getElem?_toArray, List.getElem?_cons_succ, List.getElem?_cons_zero]
          rfl
        case hqd3 => exact fun _ _ _ h => h
        case hyd3 => exact Or.inl ⟨by kernel_rfl, fun w hSw => by go_simp⟩
        try simp only [Act.put, List.setIfInBounds_toArray, List.set_cons_zero, List.set_cons_succ]
        refine wpAnyH_take (i := 4) (oi := ?oid4) (v := .agg #[.slice ua ss.length uc]) ?hid4 (by kernel_rfl) (by kernel_rfl) (by kernel_rfl) ?hqd4 ?hyd4 hHeld ?hrd4
        case hid4 =>
          simp only [List.getElem?_toArray, List.getElem?_cons_succ, List.getElem?_cons_zero]
          rfl
        case hqd4 => exact fun _ _ _ h => h
        case hyd4 => exact Or.inl ⟨by kernel_rfl, fun w hSw => by (obtain ⟨s1, s2⟩ := hSw; go_simp)⟩
        try simp only [Act.put, List.setIfInBounds_toArray, List.set_cons_zero, List.set_cons_succ]
        refine wpAnyH_take (i := 6) (oi := ?oid6) (v := .int .i64 at0) ?hid6 (by kernel_rfl) (by kernel_rfl) (by kernel_rfl) ?hqd6 ?hyd6 hHeld ?hrd6
        case hid6 =>
          simp only [List.getElem?_toArray, List.getElem?_cons_succ, List.getElem?_cons_zero]
          rfl
        case hqd6 => exact fun _ _ _ h => h
        case hyd6 => exact Or.inl ⟨by kernel_rfl, fun w hSw => by go_simp⟩
        try simp only [Act.put, List.setIfInBounds_toArray, List.set_cons_zero, List.set_cons_succ]
        refine wpAnyH_ready (rs := [5]) (by kernel_rfl) (by simp) ?_
        refine AllReadyH.cons (o := ?ood5) ?hod5 (fun K hK => ?_) AllReadyH.nil
        case hod5 =>
          simp only [List.getElem?_toArray, List.getElem?_cons_succ, List.getElem?_cons_zero]
          rfl
        go_simp
        go_at_call 14
        refine (hRr _ (by go_grown)).mono ?_
        rintro e w5 ⟨v5, rfl, own5, b5⟩
        have M5 : Below wb.heap.size wb w5 := Below.trans (by go_grown) b5
        obtain ⟨hc5, hf5⟩ := bcell M5
        go_wp2_with fail
        refine hK.out _ _ ⟨(hc5 _ _ hXl).trans c1, (hc5 _ _ gB).trans q0⟩ (fun hHeld => ?_)
        clear hK K
        try simp only [Act.put, List.setIfInBounds_toArray, List.set_cons_zero, List.set_cons_succ]
        refine wpAnyH_ready (rs := [7]) (by kernel_rfl) (by simp) ?_
        refine AllReadyH.cons (o := ?ood7) ?hod7 (fun K hK => ?_) AllReadyH.nil
        case hod7 =>
          simp only [List.getElem?_toArray, List.getElem?_cons_succ, List.getElem?_cons_zero]
          rfl
        go_simp
        go_at_call 13
        refine (hHr' _ _ (reads_own own5)).mono ?_
        rintro e w7 ⟨rfl, b7⟩
        have M7 : Below wb.heap.size wb w7 := M5.trans (b7.mono M5.size)
        obtain ⟨hc7, hf7⟩ := bcell M7
        go_wp2_with fail
        refine hK.out _ _ ⟨(hc7 _ _ hXl).trans c1, (hc7 _ _ gB).trans q0⟩ (fun hHeld => ?_)
        clear hK K
        try simp only [Act.put, List.setIfInBounds_toArray, List.set_cons_zero, List.set_cons_succ]
        refine wpAnyH_take (i := 8) (oi := ?oid8) (v := .bool false) ?hid8 (by kernel_rfl) (by kernel_rfl) (by kernel_rfl) ?hqd8 ?hyd8 hHeld ?hrd8
        case hid8 =>
          simp only [List.getElem?_toArray, List.getElem?_cons_succ, List.getElem?_cons_zero]
          rfl
        case hqd8 => exact fun _ _ _ h => h
        case hyd8 => exact Or.inl ⟨by kernel_rfl, fun w hSw => by go_simp⟩
        try simp only [Act.put, List.setIfInBounds_toArray, List.set_cons_zero, List.set_cons_succ]
        refine wpAnyH_take (i := 9) (oi := ?oid9) (v := .bool false) ?hid9 (by kernel_rfl) (by kernel_rfl) (by kernel_rfl) ?hqd9 ?hyd9 hHeld ?hrd9
        case hid9 =>
          simp only [List.getElem?_toArray, List.getElem?_cons_succ, List.getElem?_cons_zero]
          rfl
        case hqd9 => exact fun _ _ _ h => h
        case hyd9 => exact Or.inl ⟨by kernel_rfl, fun w hSw => by go_simp⟩
        try simp only [Act.put, List.setIfInBounds_toArray, List.set_cons_zero, List.set_cons_succ]
        refine wpAnyH_take (i := 10) (oi := ?oid10) (v := .agg #[.slice ua ss.length uc]) ?hid10 (by kernel_rfl) (by kernel_rfl) (by kernel_rfl) ?hqd10 ?hyd10 hHeld ?hrd10
        case hid10 =>
          simp only [List.getElem?_toArray, List.getElem?_cons_succ, List.getElem?_cons_zero]
          rfl
        case hqd10 => exact fun _ _ _ h => h
        case hyd10 => exact Or.inl ⟨by kernel_rfl, fun w hSw => by (obtain ⟨s1, s2⟩ := hSw; go_simp)⟩
        try simp only [Act.put, List.setIfInBounds_toArray, List.set_cons_zero, List.set_cons_succ]
        refine wpAnyH_take (i := 11) (oi := ?oid11) (v := .int .i64 at0) ?hid11 (by kernel_rfl) (by kernel_rfl) (by kernel_rfl) ?hqd11 ?hyd11 hHeld ?hrd11
        case hid11 =>
          simp only [List.getElem?_toArray, List.getElem?_cons_succ, List.getElem?_cons_zero]
          rfl
        case hqd11 => exact fun _ _ _ h => h
        case hyd11 => exact Or.inl ⟨by kernel_rfl, fun w hSw => by go_simp⟩
        try simp only [Act.put, List.setIfInBounds_toArray, List.set_cons_zero, List.set_cons_succ]
        refine wpAnyH_take (i := 13) (oi := ?oid13) (v := .slice (some ⟨gl, 0, none⟩) LL.length lc) ?hid13 (by kernel_rfl) (by kernel_rfl) (by kernel_rfl) ?hqd13 ?hyd13 hHeld ?hrd13
        case hid13 =>
          simp only [List.getElem?_toArray, List.getElem?_cons_succ, List.getElem?_cons_zero]
          rfl
        case hqd13 => exact fun _ _ _ h => h
        case hyd13 => exact Or.inl ⟨by kernel_rfl, fun w hSw => by go_simp⟩
        try simp only [Act.put, List.setIfInBounds_toArray, List.set_cons_zero, List.set_cons_succ]
        refine wpAnyH_take (i := 14) (oi := ?oid14) (v := .pointer (some ⟨gl, 0, none⟩)) ?hid14 (by kernel_rfl) (by kernel_rfl) (by kernel_rfl) ?hqd14 ?hyd14 hHeld ?hrd14
        case hid14 =>
          simp only [List.getElem?_toArray, List.getElem?_cons_succ, List.getElem?_cons_zero]
          rfl
        case hqd14 => exact fun _ _ _ h => h
        case hyd14 => exact Or.inl ⟨by kernel_rfl, fun w hSw => by go_simp⟩
        try simp only [Act.put, List.setIfInBounds_toArray, List.set_cons_zero, List.set_cons_succ]
        refine wpAnyH_take (i := 15) (oi := ?oid15) (v := .slice a0 n0 c0) ?hid15 (by kernel_rfl) (by kernel_rfl) (by kernel_rfl) ?hqd15 ?hyd15 hHeld ?hrd15
        case hid15 =>
          simp only [List.getElem?_toArray, List.getElem?_cons_succ, List.getElem?_cons_zero]
          rfl
        case hqd15 => exact fun _ _ _ h => h
        case hyd15 => exact Or.inl ⟨by kernel_rfl, fun w hSw => by (obtain ⟨s1, s2⟩ := hSw; go_simp)⟩
        try simp only [Act.put, List.setIfInBounds_toArray, List.set_cons_zero, List.set_cons_succ]
        refine wpAnyH_take (i := 16) (oi := ?oid16) (v := .int .i64 (n0 : Int)) ?hid16 (by kernel_rfl) (by kernel_rfl) (by kernel_rfl) ?hqd16 ?hyd16 hHeld ?hrd16
        case hid16 =>
          simp only [List.getElem?_toArray, List.getElem?_cons_succ, List.getElem?_cons_zero]
          rfl
        case hqd16 => exact fun _ _ _ h => h
        case hyd16 => exact Or.inl ⟨by kernel_rfl, fun w hSw => by go_simp⟩
        try simp only [Act.put, List.setIfInBounds_toArray, List.set_cons_zero, List.set_cons_succ]
        refine wpAnyH_ready (rs := [12]) (by kernel_rfl) (by simp) ?_
        refine AllReadyH.cons (o := ?ood12) ?hod12 (fun K hK => ?_) AllReadyH.nil
        case hod12 =>
          simp only [List.getElem?_toArray, List.getElem?_cons_succ, List.getElem?_cons_zero]
          rfl
        go_simp
        go_at_call 15
        refine (hSr _ M7).mono ?_
        rintro e w8 ⟨rfl, b8⟩
        have M8 : Below wb.heap.size wb w8 := M7.trans (b8.mono M7.size)
        obtain ⟨hc8, hf8⟩ := bcell M8
        go_wp2_with fail
        refine hK.out _ _ ⟨(hc8 _ _ hXl).trans c1, (hc8 _ _ gB).trans q0⟩ (fun hHeld => ?_)
        clear hK K
        try simp only [Act.put, List.setIfInBounds_toArray, List.set_cons_zero, List.set_cons_succ]
        refine wpAnyH_take (i := 17) (oi := ?oid17) (v := .bool false) ?hid17 (by kernel_rfl) (by kernel_rfl) (by kernel_rfl) ?hqd17 ?hyd17 hHeld ?hrd17
        case hid17 =>
          simp only [List.getElem?_toArray, List.getElem?_cons_succ, List.getElem?_cons_zero]
          rfl
        case hqd17 => exact fun _ _ _ h => h
        case hyd17 => exact Or.inl ⟨by kernel_rfl, fun w hSw => by go_simp⟩
        try simp only [Act.put, List.setIfInBounds_toArray, List.set_cons_zero, List.set_cons_succ]
        refine wpAnyH_take (i := 18) (oi := ?oid18) (v := .bool false) ?hid18 (by kernel_rfl) (by kernel_rfl) (by kernel_rfl) ?hqd18 ?hyd18 hHeld ?hrd18
        case hid18 =>
          simp only [List.getElem?_toArray, List.getElem?_cons_succ, List.getElem?_cons_zero]
          rfl
        case hqd18 => exact fun _ _ _ h => h
        case hyd18 => exact Or.inl ⟨by kernel_rfl, fun w hSw => by go_simp⟩
        try simp only [Act.put, List.setIfInBounds_toArray, List.set_cons_zero, List.set_cons_succ]
        refine wpAnyH_take (i := 19) (oi := ?oid19) (v := .bool false) ?hid19 (by kernel_rfl) (by kernel_rfl) (by kernel_rfl) ?hqd19 ?hyd19 hHeld ?hrd19
        case hid19 =>
          simp only [List.getElem?_toArray, List.getElem?_cons_succ, List.getElem?_cons_zero]
          rfl
        case hqd19 => exact fun _ _ _ h => h
        case hyd19 => exact Or.inl ⟨by kernel_rfl, fun w hSw => by go_simp⟩
        try simp only [Act.put, List.setIfInBounds_toArray, List.set_cons_zero, List.set_cons_succ]
        refine wpAnyH_done (by kernel_rfl) ?_ _
        have DD := HD.out.step M8
        clear hHeld hc5 hc7 hc8 hf5 hf7 hf8 M5 M7 b5 b7 b8 own5
        obtain ⟨c2, f2⟩ := oneCell DD.box
        by_cases hm7 : most = 7
        · have hin := Hs hm7
          subst hm7
          go_wp2_with fail
          go_at_call 14
          refine (hRr _ M8).mono ?_
          rintro e w9 ⟨v9, rfl, own9, b9⟩
          have D9 := DD.step b9
          go_wp2_with fail
          go_at_call 13
          refine (hHr _ _ (reads_own own9)).mono ?_
          rintro e w10 ⟨rfl, b10⟩
          have D10 := D9.step b10
          clear D9 b9 own9 b10
          go_wp2
          go_ret
          exact ⟨rfl, D10.bl⟩
        · go_wp2
          go_ret
          exact ⟨rfl, DD.bl⟩

set_option maxRecDepth 100000 in
theorem liftedFnWays (os : Os) (started : os.Started) (H : Type) (enc : TypeId × Value → H) :
    ReturnsInHanded {} Try.checked os 3 .any (Rows.fnWaysSpec.pre6 enc Try.prog Try.f3 Rows.fnWaysRow.domain false) (Rows.fnWaysSpec.post enc Try.prog Try.f3 false true false false) := by
  refine returnsInHanded_of_change (C := Try.checked) own started (by kernel_rfl) Try.func3
    (ChangeSpec.witness6 (enc := enc) (C := Try.checked) false ⟨#[], #[.slice none 0 0], []⟩ 8 (by kernel_rfl) (by kernel_rfl) (by kernel_rfl) (by kernel_rfl)) ?_
  intro W base args ds gs before hval0 hW hcnd _
  have hval : ∀ (j : Nat) t v, Try.f3.params[j]? = some t → args[j]? = some v → Value.okWide Try.prog W .any base t v := hval0
  have hW' := hW
  obtain ⟨p, q, hA0, hV, rfl, hfz, hnd⟩ := hW
  have hA : DataW.TrodAll enc Try.prog W 0 (fun _ => true) true Try.f3.params.toList args.toList ds p := hA0
  rw [Try.params3] at hA hval
  obtain ⟨v0, vs0, d0, ds0, p0, q0, hargs, rfl, rfl, h0, r0⟩ := trodAll_cons hA
  obtain ⟨rfl, rfl, rfl⟩ := trodAll_nil r0
  obtain rfl : args = #[v0] := by cases args; simp_all
  obtain ⟨rfl, rfl⟩ := trodVars_none hV
  obtain ⟨bs, hr, hl, hs⟩ := open_code Try.underlying22 Try.underlying5 cellsByte (hval 0 22 v0 rfl rfl) h0
  refine (walkFnWays bs v0 W hl hr).mono fun e W' ⟨he, hb⟩ => ?_
  subst he
  refine ⟨_, rfl, law_post (tb := 4) laidOut ?_ hW' rfl Try.underlying4 rfl rfl hb⟩
  exact all_readable (P := Try.prog) (by kernel_rfl)

theorem overFnWays : Rows.fnWaysRow.holds Try.pinned (OpenSpec.ofChange Rows.fnWaysSpec) :=
  OpenClaim.holds_of_wide 3 Try.f3 rfl rfl rfl rfl rfl rfl rfl ⟨rfl, rfl, rfl, rfl, rfl⟩ rfl rfl rfl rfl rfl (by kernel_rfl) Try.func3 (by kernel_rfl)
    (of_decide_eq_true (by kernel_rfl)) (by unfold Func.isWrapper; first | (rw [if_pos (by decide +kernel)]; kernel_rfl) | (rw [if_neg (by decide +kernel)]; exact ⟨rfl, rfl⟩))
    (fun os started H enc _ => liftedFnWays os started H enc)

/-- ████ THE STATEMENT ████ -/
theorem waysHold : Rows.FnWaysSaid :=
  overFnWays
#print axioms waysHold

end Go.Proofs.Ytjlfmjoallnojab
