/-
  Chapter 13, texts: impl.programIn.
-/
import Derived.Test.YtjdmmpdcafbneaaDoorReadSt
namespace Go.Proofs.YtjdmmpdcafbneaaDoor
open Go.RowKit
set_option linter.unusedVariables false
set_option linter.unusedSimpArgs false
set_option maxHeartbeats 4000000
set_option maxRecDepth 20000

/-- What the program has read of the first lines: of a right program that is shown so, its first procedures. -/
def PI (D : List UInt8) (i : Nat) (ps : List (List Stm)) : Prop := ∀ qs : List (List Stm), programOk qs = true → showT qs = D → ps = qs.take i
def PJ (D : List UInt8) (i j : Nat) (q : List Stm) : Prop := ∀ qs : List (List Stm), programOk qs = true → showT qs = D → ∃ p, qs[i]? = some p ∧ q = p.take j

theorem line_words {s : ByteArray} {ls : List ByteArray} (hl : ls.map toL = splitT 59 (toL s)) {qs : List (List Stm)} (hq : programOk qs = true) (he : showT qs = toL s) : ls.length = qs.length ∧ ∀ i (h : i < ls.length), ∃ p, qs[i]? = some p ∧ p.map stmtT = splitT 32 (toL ls[i]) := by
  have h1 := words_show hq
  rw [he] at h1
  unfold wordsT at h1
  rw [← hl, List.map_map] at h1
  have h2 := congrArg List.length h1
  simp only [List.length_map] at h2
  refine ⟨h2, fun i h => ⟨qs[i], by simp, ?_⟩⟩
  have h3 := congrArg (fun l => l[i]?) h1
  simp only [List.getElem?_map, List.getElem?_eq_getElem h, List.getElem?_eq_getElem (show i < qs.length by omega), Option.map_some, Option.some.injEq, Function.comp] at h3
  exact h3.symm

theorem PI.zero (D : List UInt8) : PI D 0 [] := fun qs _ _ => by simp
theorem PJ.zero {s : ByteArray} {ls : List ByteArray} (hl : ls.map toL = splitT 59 (toL s)) {i : Nat} (hi : i < ls.length) : PJ (toL s) i 0 [] := fun qs hq he => by
  obtain ⟨_, h⟩ := line_words hl hq he
  obtain ⟨p, h1, _⟩ := h i hi
  exact ⟨p, h1, by simp⟩
theorem PJ.step {s : ByteArray} {ls ws : List ByteArray} (hl : ls.map toL = splitT 59 (toL s)) {i j : Nat} (hi : i < ls.length) (hw : ws.map toL = splitT 32 (toL ls[i])) (hj : j < ws.length) {q : List Stm} (h : PJ (toL s) i j q) {t : Stm} (ht : ∀ u : Stm, stmtOk u.k u.x u.y = true → stmtT u = toL ws[j] → u = t) : PJ (toL s) i (j + 1) (q ++ [t]) := fun qs hq he => by
  obtain ⟨_, hh⟩ := line_words hl hq he
  obtain ⟨p, h1, h2⟩ := hh i hi
  obtain ⟨p', h3, h4⟩ := h qs hq he
  obtain rfl : p = p' := Option.some.inj (h1.symm.trans h3)
  rw [← hw] at h2
  have hpl : p.length = ws.length := by have := congrArg List.length h2; simpa using this
  have hjp : j < p.length := by omega
  have h5 := congrArg (fun l => l[j]?) h2
  simp only [List.getElem?_map, List.getElem?_eq_getElem hjp, List.getElem?_eq_getElem hj, Option.map_some, Option.some.injEq] at h5
  have hok := ((program_parts hq).2 p (List.mem_of_getElem? h1)).2 p[j] (List.getElem_mem hjp)
  have h6 := ht p[j] hok h5
  exact ⟨p, h1, by rw [h4, List.take_succ_eq_append_getElem hjp, h6]⟩
theorem PI.step {s : ByteArray} {ls ws : List ByteArray} (hl : ls.map toL = splitT 59 (toL s)) {i j : Nat} (hi : i < ls.length) (hw : ws.map toL = splitT 32 (toL ls[i])) (hj : ws.length ≤ j) {q : List Stm} (h : PJ (toL s) i j q) {ps : List (List Stm)} (hp : PI (toL s) i ps) : PI (toL s) (i + 1) (ps ++ [q]) := fun qs hq he => by
  obtain ⟨_, hh⟩ := line_words hl hq he
  obtain ⟨p, h1, h2⟩ := hh i hi
  obtain ⟨p', h3, h4⟩ := h qs hq he
  obtain rfl : p = p' := Option.some.inj (h1.symm.trans h3)
  rw [← hw] at h2
  have hpl : p.length = ws.length := by have := congrArg List.length h2; simpa using this
  rw [List.take_of_length_le (by omega)] at h4
  have hi2 := (List.getElem?_eq_some_iff.1 h1).1
  have hi3 := (List.getElem?_eq_some_iff.1 h1).2
  rw [hp qs hq he, h4, List.take_succ_eq_append_getElem hi2, hi3]
theorem PI.all {s : ByteArray} {ls : List ByteArray} (hl : ls.map toL = splitT 59 (toL s)) {ps : List (List Stm)} (h : PI (toL s) ls.length ps) : ∀ qs : List (List Stm), programOk qs = true → showT qs = toL s → ps = qs := fun qs hq he => by
  have := (line_words hl hq he).1
  rw [h qs hq he, List.take_of_length_le (by omega)]

/-- What the loop over lines has in hand. -/
structure PrB (w : World) (s : ByteArray) (vl : Value) (ls : List ByteArray) (i : Nat) (u : Value) (us : List Value) (ps : List (List Stm)) (W : World) : Prop where
  res : W.heap[w.heap.size]? = some (.cells #[.slice none 0 0] 26 (0, 0))
  box : W.heap[w.heap.size + 1]? = some (.cells #[u] 26 (0, 0))
  own : Own13 W (w.heap.size + 2) u us ps
  row : W.ownsRow (w.heap.size + 2) 9 1 vl ls.length (ls.map .string)
  low : Below w.heap.size w W
  pi : PI (toL s) i ps
  pl : ps.length ≤ i

def PrP (s : ByteArray) (w : World) (r : Ending) (w' : World) : Prop := ∃ (u : Value) (us : List Value) (ps : List (List Stm)), r = .returned (.agg #[u]) ∧ Below w.heap.size w w' ∧ Own13 w' w.heap.size u us ps ∧ (∀ qs : List (List Stm), programOk qs = true → showT qs = toL s → ps = qs)

theorem programIn (s : ByteArray) (w : World) (hl : Laid w) (hs : s.size ≤ 1000) : Calls Tryd.prog 21 #[.string s] w (PrP s w) := by
  obtain ⟨i0, hi0, hz0, hz1, hz2⟩ := info_parts infoStmt
  obtain ⟨j0, hj0, hy0, hy1, hy2⟩ := info_parts infoProc
  have hsz := toL_len s
  obtain ⟨W0, hW0⟩ : ∃ W0, (w.alloc (.cells #[.slice none 0 0] 26)).alloc (.cells #[.slice none 0 0] 26) = W0 := ⟨_, rfl⟩
  have b0 : Below w.heap.size w W0 := by rw [← hW0]; go_grown
  have s0 : W0.heap.size = w.heap.size + 2 := by rw [← hW0]; simp
  have H0 : W0.heap[w.heap.size]? = some (.cells #[.slice none 0 0] 26 (0, 0)) := by rw [← hW0, old_block (by simp)]; exact heap_alloc_new w _
  have H1 : W0.heap[w.heap.size + 1]? = some (.cells #[.slice none 0 0] 26 (0, 0)) := by
    rw [← hW0]
    have := heap_alloc_new (w.alloc (.cells #[.slice none 0 0] 26)) (.cells #[.slice none 0 0] 26)
    simpa using this
  have HW0 : Hid _ := hW0
  clear hW0
  go_enter Tryd.func21, Tryd.ntmps21
  go_wp2_with fail
  rw [HW0.out]
  go_at_call 35
  refine (implSplit s 59 _ (hl.below b0) (by omega)).mono ?_
  rintro e w1 ⟨vl, ls, rfl, hown, b1, hls⟩
  rw [s0] at hown
  obtain ⟨la, lm, lc, rfl⟩ := own_slice hown
  have hlm := own_lenR hown
  subst hlm
  have hll : ls.length ≤ 1001 := by
    have := congrArg List.length hls
    rw [List.length_map] at this
    rw [this]
    have := split_len 59 (toL s)
    omega
  have HLS : Hid _ := hls
  have HST : Hid (PrB w s (.slice la ls.length lc) ls 0 (.slice none 0 0) [] [] w1) := ⟨(b1.block _ (by omega)).trans H0, (b1.block _ (by omega)).trans H1, own13_nil _ _, hown, b0.trans (b1.mono b0.size), PI.zero _, Nat.le_refl _⟩
  clear hown b1 b0 H0 H1 HW0 hls s0
  go_wp2_with fail
  go_loopw [12] (fun x wr => ∃ (i : Nat) (u : Value) (us : List Value) (ps : List (List Stm)), x = .int .i64 i ∧ i ≤ ls.length ∧ Hid (PrB w s (.slice la ls.length lc) ls i u us ps wr)) (fun x _ => ls.length - (intOf x).toNat)
  case atStart => exact ⟨0, _, _, _, rfl, by omega, HST.out⟩
  case round =>
    obtain ⟨i, u, us, ps, rfl, hi, HR⟩ := hrel
    clear HST
    by_cases hlt : i < ls.length
    · have hlt9 : (i : Int) < (ls.length : Int) := by omega
      have hrow := HR.out.row
      obtain ⟨lg, lc', hla⟩ := own_formR hrow (by omega)
      injection hla with hla1 _ hla3
      subst hla1 hla3
      have q0 : wr.cell? ⟨lg, i, none⟩ = some (.string ls[i]) := (hrow.cellAt i (by omega)).trans (by simp [hlt])
      have hsi : ls[i].size ≤ 1000 := part_size HLS.out (List.getElem_mem _) (n := s.size) (Nat.le_refl _) (by omega)
      have hwz : w.heap.size + 2 ≤ wr.heap.size := by have := (Array.getElem?_eq_some_iff.1 HR.out.box).1; omega
      obtain ⟨wo, hwo⟩ : ∃ wo, wo = wr := ⟨_, rfl⟩
      obtain ⟨wx, hwx⟩ : ∃ wx, wr.alloc (.cells #[.slice none 0 0] 39) = wx := ⟨_, rfl⟩
      have bX : Below wr.heap.size wr wx := by rw [← hwx]; go_grown
      have XB : wx.heap[wr.heap.size]? = some (.cells #[.slice none 0 0] 39 (0, 0)) := by rw [← hwx]; exact heap_alloc_new _ _
      have sX : wx.heap.size = wr.heap.size + 1 := by rw [← hwx]; simp
      have HLX : Hid (Laid wx) := (hl.below HR.out.low).below bX
      have HWX : Hid _ := hwx
      clear hrow hwx
      go_wp2_with fail
      rw [HWX.out]
      subst hwo
      go_at_call 35
      refine (implSplit ls[i] 32 _ HLX.out (by omega)).mono ?_
      rintro e w5 ⟨vw, ws, rfl, hown, b5, hws⟩
      obtain ⟨wa, wm, wc, rfl⟩ := own_slice hown
      have hwm := own_lenR hown
      subst hwm
      have hwl : ws.length ≤ 1001 := by
        have := congrArg List.length hws
        rw [List.length_map] at this
        rw [this]
        have := split_len 32 (toL ls[i])
        have h8 := toL_len ls[i]
        omega
      have HWS : Hid _ := hws
      rw [sX] at hown
      have z5 := b5.size
      have HX5 : Hid (w5.heap[wo.heap.size]? = some (.cells #[.slice none 0 0] 39 (0, 0))) := (b5.block _ (by omega)).trans XB
      have HB5 : Hid (Below wo.heap.size wo w5) := bX.trans (b5.mono bX.size)
      have HOW : Hid (w5.ownsRow (wo.heap.size + 1) 9 1 (.slice wa ws.length wc) ws.length (ws.map .string)) := hown
      clear b5 hown hws q0 XB bX HWX HLX
      go_wp2_with fail
      go_loopw [19] (fun x wr => ∃ (j : Nat) (v : Value) (q : List Stm), x = .int .i64 j ∧ j ≤ ws.length ∧ Hid (PJ (toL s) i j q) ∧ Hid (q.length ≤ j) ∧ Hid (wr.heap[wo.heap.size]? = some (.cells #[v] 39 (0, 0))) ∧ Hid (wr.ownsRow (wo.heap.size + 1) 42 3 v q.length (cells3 q)) ∧ Hid (wr.ownsRow (wo.heap.size + 1) 9 1 (.slice wa ws.length wc) ws.length (ws.map .string)) ∧ Hid (Below wo.heap.size wo wr)) (fun x _ => ws.length - (intOf x).toNat)
      case atStart => exact ⟨0, _, [], rfl, by omega, PJ.zero HLS.out hlt, Nat.le_refl _, HX5.out, ⟨rfl, .inl ⟨rfl, rfl⟩⟩, HOW.out, HB5.out⟩
      case round =>
        obtain ⟨j, v, q, rfl, hj, HQ, HQL, HX, HV, HWO, HB⟩ := hrel
        clear HX5 HB5 HOW
        have zr := HB.out.size
        obtain ⟨va, vm, vc, rfl⟩ := own_slice HV.out
        by_cases hjt : j < ws.length
        · have hjt9 : (j : Int) < (ws.length : Int) := by omega
          obtain ⟨wg, wc', hwa⟩ := own_formR HWO.out (by omega)
          injection hwa with hwa1 _ hwa3
          subst hwa1 hwa3
          have q0 : wr.cell? ⟨wg, j, none⟩ = some (.string ws[j]) := (HWO.out.cellAt j (by omega)).trans (by simp [hjt])
          have hsj : ws[j].size ≤ 100000 := part_size HWS.out (List.getElem_mem _) (n := ls[i].size) (Nat.le_refl _) (by omega)
          have x0 := (one_cell HX.out).1
          have hql : q.length ≤ 1001 := by have := HQL.out; omega
          have hXl : wo.heap.size < wr.heap.size := (Array.getElem?_eq_some_iff.1 HX.out).1
          have HLR : Hid (Laid wr) := hl.below (HR.out.low.trans (HB.out.mono HR.out.low.size))
          go_wp2_with fail
          refine wp_region_late (S := fun w' => w'.cell? ⟨wo.heap.size, 0, none⟩ = some (.slice va vm vc)) (late := fun j => j == 7) (by kernel_rfl) x0 (fun hHeld => ?_)
          refine wpAnyG_take (i := 0) (oi := ?oipa0) (v := .pointer (some ⟨wo.heap.size, 0, none⟩)) ?hipa0 (by kernel_rfl) (by kernel_rfl) (by kernel_rfl) (by kernel_rfl) ?hqpa0 ?hypa0 hHeld ?hrpa0
          case hipa0 =>
            simp only [List.getElem?_toArray, List.getElem?_cons_succ, List.getElem?_cons_zero]
            rfl
          case hqpa0 => exact fun _ _ _ h => h
          case hypa0 => exact Or.inl ⟨by kernel_rfl, fun w hSw => by go_simp⟩
          try simp only [Act.put, List.setIfInBounds_toArray, List.set_cons_zero, List.set_cons_succ]
          refine wpAnyG_take (i := 1) (oi := ?oipa1) (v := .slice va vm vc) ?hipa1 (by kernel_rfl) (by kernel_rfl) (by kernel_rfl) (by kernel_rfl) ?hqpa1 ?hypa1 hHeld ?hrpa1
          case hipa1 =>
            simp only [List.getElem?_toArray, List.getElem?_cons_succ, List.getElem?_cons_zero]
            rfl
          case hqpa1 => exact fun _ _ _ h => h
          case hypa1 => exact Or.inl ⟨by kernel_rfl, fun w hSw => by go_simp⟩
          try simp only [Act.put, List.setIfInBounds_toArray, List.set_cons_zero, List.set_cons_succ]
          refine wpAnyG_take (i := 2) (oi := ?oipa2) (v := .string ws[j]) ?hipa2 (by kernel_rfl) (by kernel_rfl) (by kernel_rfl) (by kernel_rfl) ?hqpa2 ?hypa2 hHeld ?hrpa2
          case hipa2 =>
            simp only [List.getElem?_toArray, List.getElem?_cons_succ, List.getElem?_cons_zero]
            rfl
          case hqpa2 => exact fun _ _ _ h => h
          case hypa2 => exact Or.inl ⟨by kernel_rfl, fun w hSw => by go_simp⟩
          try simp only [Act.put, List.setIfInBounds_toArray, List.set_cons_zero, List.set_cons_succ]
          refine wpAnyG_ready (rs := [3]) (by kernel_rfl) (by simp) ?_
          refine (AllReadyG.cons (o := ?oopa3) ?hopa3 (fun K hK => ?hkpa3) AllReadyG.nil)
          case hopa3 =>
            simp only [List.getElem?_toArray, List.getElem?_cons_succ, List.getElem?_cons_zero]
            rfl
          case hkpa3 =>
            go_simp
            go_at_call 36
            refine (stmtIn ws[j] _ (HLR.out.below (Below.drew (Below.refl _ _))) hsj).mono ?_
            rintro e w6 ⟨⟨tk, tx, ty⟩, rfl, b6, ht⟩
            have C6 : Hid (Below wr.heap.size wr w6) := Below.trans (Below.drew (Below.refl _ _)) b6
            have HQ2 : Hid (PJ (toL s) i (j + 1) (q ++ [⟨tk, tx, ty⟩])) := PJ.step HLS.out hlt HWS.out hjt HQ.out ht
            clear b6 ht
            try go_wp2_with fail
            refine hK.out _ _ (Or.inr (cell_step3 x0 C6.out)) (fun hHeld => ?_)
            replace hHeld := hHeld.resolve_left (by decide)
            clear hK K
            try simp only [Act.put, List.setIfInBounds_toArray, List.set_cons_zero, List.set_cons_succ]
            refine wpAnyG_ready (rs := [4]) (by kernel_rfl) (by simp) ?_
            refine (AllReadyG.cons (o := ?oopa4) ?hopa4 (fun K hK => ?hkpa4) AllReadyG.nil)
            case hopa4 =>
              simp only [List.getElem?_toArray, List.getElem?_cons_succ, List.getElem?_cons_zero]
              rfl
            case hkpa4 =>
              go_simp
              try go_wp2_with fail
              have Bl : Hid (Below wr.heap.size wr (w6.alloc (.cells #[.int .i64 tk, .int .i64 tx, .int .i64 ty] 42))) := C6.out.alloc C6.out.size _
              have Ll : Hid ((w6.alloc (.cells #[.int .i64 tk, .int .i64 tx, .int .i64 ty] 42)).heap[w6.heap.size]? = some (.cells #[.int .i64 tk, .int .i64 tx, .int .i64 ty] 42 (0, 0))) := heap_alloc_new w6 _
              generalize w6.alloc (.cells #[.int .i64 tk, .int .i64 tx, .int .i64 ty] 42) = wl at *
              refine hK.out _ _ (Or.inr (cell_step3 x0 Bl.out)) (fun hHeld => ?_)
              replace hHeld := hHeld.resolve_left (by decide)
              clear hK K
              try simp only [Act.put, List.setIfInBounds_toArray, List.set_cons_zero, List.set_cons_succ]
              refine wpAnyG_ready (rs := [5]) (by kernel_rfl) (by simp) ?_
              refine (AllReadyG.cons (o := ?oopa5) ?hopa5 (fun K hK => ?hkpa5) AllReadyG.nil)
              case hopa5 =>
                simp only [List.getElem?_toArray, List.getElem?_cons_succ, List.getElem?_cons_zero]
                rfl
              case hkpa5 =>
                have Vl : wl.ownsRow (wo.heap.size + 1) 42 3 (.slice va vm vc) q.length (cells3 q) := own_kept HV.out Bl.out
                refine step_append_lies _ rfl (.tmp 24) (.tmp 27) 37 rfl (wo.heap.size + 1) 42 i0 (.agg #[.int .i64 0, .int .i64 0, .int .i64 0]) 3 24 Tryd.underlying37 hi0 hz0 hz1 hz2 rfl (by decide) (.slice va vm vc) q.length (cells3 q) rfl Vl ⟨w6.heap.size, 0, none⟩ 1 1 (cells3 [⟨tk, tx, ty⟩]) rfl rfl (World.news_of_block Ll.out) (by simp [cells3, Value.oneCell']) (by omega) (by unfold maxLen; omega) (by omega) (by have := Bl.out.size; omega) _ rfl ?_
                intro gq cq wq ownq growq _ _
                have growq : wl.grownBy wq (Value.slice va vm vc).ownBlock := growq
                have hgq : wo.heap.size + 1 ≤ gq := (ownq.lt gq rfl).1
                have Bq : Hid (Below wo.heap.size wo wq) := (HB.out.trans (Bl.out.mono zr)).grown growq (by have := Bl.out.size; omega) (fun k hk => by have := (Vl.lt k hk).1; omega)
                have XQ : Hid (wq.heap[wo.heap.size]? = some (.cells #[.slice va vm vc] 39 (0, 0))) := (growq.block _ (by have := Bl.out.size; omega) (fun e => by have := (Vl.lt _ (by first | exact e | exact e.symm)).1; omega)).trans ((Bl.out.block _ hXl).trans HX.out)
                have OQ : Hid (wq.ownsRow (wo.heap.size + 1) 42 3 (.slice (some ⟨gq, 0, none⟩) (q.length + 1) cq) (q.length + 1) (cells3 q ++ cells3 [⟨tk, tx, ty⟩])) := ownq
                have WQ : Hid (wq.ownsRow (wo.heap.size + 1) 9 1 (.slice (some ⟨wg, 0, none⟩) ws.length wc) ws.length (ws.map .string)) := own_grown (own_kept HWO.out Bl.out) growq (fun k hk e => kind13 (own_kept HWO.out Bl.out) Vl (by decide) k hk e)
                clear ownq growq Vl
                refine hK.out _ _ (Or.inr (one_cell XQ.out).1) (fun hHeld => ?_)
                replace hHeld := hHeld.resolve_left (by decide)
                clear hK K
                try simp only [Act.put, List.setIfInBounds_toArray, List.set_cons_zero, List.set_cons_succ]
                refine wpAnyG_take (i := 6) (oi := ?oipa6) (v := .pointer (some ⟨wo.heap.size, 0, none⟩)) ?hipa6 (by kernel_rfl) (by kernel_rfl) (by kernel_rfl) (by kernel_rfl) ?hqpa6 ?hypa6 hHeld ?hrpa6
                case hipa6 =>
                  simp only [List.getElem?_toArray, List.getElem?_cons_succ, List.getElem?_cons_zero]
                  rfl
                case hqpa6 => exact fun _ _ _ h => h
                case hypa6 => exact Or.inl ⟨by kernel_rfl, fun w hSw => by go_simp⟩
                try simp only [Act.put, List.setIfInBounds_toArray, List.set_cons_zero, List.set_cons_succ]
                refine wpAnyG_ready (rs := [7]) (by kernel_rfl) (by simp) ?_
                refine (AllReadyG.cons (o := ?oopa7) ?hopa7 (fun K hK => ?hkpa7) AllReadyG.nil)
                case hopa7 =>
                  simp only [List.getElem?_toArray, List.getElem?_cons_succ, List.getElem?_cons_zero]
                  rfl
                case hkpa7 =>
                  obtain ⟨e1, e2⟩ := one_cell XQ.out
                  go_simp
                  try go_wp2_with fail
                  refine hK.out _ _ (Or.inl rfl) (fun _ => ?_)
                  clear hK K
                  try simp only [Act.put, List.setIfInBounds_toArray, List.set_cons_zero, List.set_cons_succ]
                  refine wpAnyG_done (by kernel_rfl) ?_ _
                  have HX5 : Hid ((wq.setCell ⟨wo.heap.size, 0, none⟩ (.slice (some ⟨gq, 0, none⟩) (q.length + 1) cq)).heap[wo.heap.size]? = some (.cells #[.slice (some ⟨gq, 0, none⟩) (q.length + 1) cq] 39 (0, 0))) := one_set XQ.out _
                  have HV5 : Hid ((wq.setCell ⟨wo.heap.size, 0, none⟩ (.slice (some ⟨gq, 0, none⟩) (q.length + 1) cq)).ownsRow (wo.heap.size + 1) 42 3 (.slice (some ⟨gq, 0, none⟩) (q.length + 1) cq) (q ++ [(⟨tk, tx, ty⟩ : Stm)]).length (cells3 (q ++ [(⟨tk, tx, ty⟩ : Stm)]))) := by
                    show World.ownsRow _ _ _ _ _ _ _
                    rw [cells3_append, List.length_append]
                    exact own_grown OQ.out (grown_setRow13 _ _ _ _) (fun k hk e => by have h1 : gq = k := Option.some.inj hk; have h2 := Option.some.inj e; omega)
                  have HW5 : Hid ((wq.setCell ⟨wo.heap.size, 0, none⟩ (.slice (some ⟨gq, 0, none⟩) (q.length + 1) cq)).ownsRow (wo.heap.size + 1) 9 1 (.slice (some ⟨wg, 0, none⟩) ws.length wc) ws.length (ws.map .string)) := own_grown WQ.out (grown_setRow13 _ _ _ _) (fun k hk e => by have h1 := (WQ.out.lt k hk).1; have h2 := Option.some.inj e; omega)
                  have HB5 : Hid (Below wo.heap.size wo (wq.setCell ⟨wo.heap.size, 0, none⟩ (.slice (some ⟨gq, 0, none⟩) (q.length + 1) cq))) := Bq.out.setCell (Nat.le_refl _) _
                  have HL5 : Hid ((q ++ [(⟨tk, tx, ty⟩ : Stm)]).length ≤ j + 1) := by (show _ ≤ _; have := HQL.out; simp; omega)
                  generalize (wq.setCell ⟨wo.heap.size, 0, none⟩ (.slice (some ⟨gq, 0, none⟩) (q.length + 1) cq)) = w5' at *
                  clear HV HX HWO HB OQ XQ WQ Bq Bl Ll C6 HLR x0 HQ HQL
                  go_wp2
                  go_roundw
                  case rel => exact ⟨j + 1, _, _, by go_num, by omega, HQ2.out, HL5.out, HX5.out, HV5.out, HW5.out, HB5.out⟩
                  case measure => simp [intOf]; omega
        · have hjt9 : ¬ (j : Int) < (ws.length : Int) := by omega
          have HLW : Hid (PI (toL s) (i + 1) (ps ++ [q])) := PI.step HLS.out hlt HWS.out (by omega) HQ.out HR.out.pi
          have OWr : Own13 wr (w.heap.size + 2) u us ps := HR.out.own.kept HB.out
          have hpl := HR.out.pl
          have hxl := (Array.getElem?_eq_some_iff.1 HX.out).1
          obtain ⟨ua, um, uc, rfl⟩ := own_slice OWr.row
          have BO := (HB.out.block (w.heap.size + 1) (by omega)).trans HR.out.box
          have dO := (one_cell BO).1
          have dX := (one_cell HX.out).1
          obtain ⟨wl, hwl'⟩ : ∃ wl, wr.alloc (.cells #[.slice va vm vc] 39) = wl := ⟨_, rfl⟩
          have bl : Below wr.heap.size wr wl := by rw [← hwl']; go_grown
          have Ll : Hid (wl.heap[wr.heap.size]? = some (.cells #[.slice va vm vc] 39 (0, 0))) := by
            show wl.heap[wr.heap.size]? = _
            rw [← hwl']; exact heap_alloc_new wr _
          have zl := bl.size
          have OWl : Hid (Own13 wl (w.heap.size + 2) (.slice ua um uc) us ps) := OWr.kept bl
          have Vl : Hid (wl.ownsRow (wo.heap.size + 1) 42 3 (.slice va vm vc) q.length (cells3 q)) := own_kept HV.out bl
          have bLo : Below wo.heap.size wo wl := HB.out.trans (bl.mono zr)
          have HFR : Hid (∀ y ∈ us, ∀ k, y.ownBlock = some k → (Value.slice va vm vc).ownBlock ≠ some k) := fun y hy k hk e => by (have h1 := HR.out.own.lts y hy k hk; have h2 := (HV.out.lt k e).1; omega)
          have HROW : Hid (wl.ownsRow (w.heap.size + 2) 39 1 (.slice ua um uc) ps.length us) := OWl.out.row
          have hcs : Hid (∀ m u, [Value.slice va vm vc][m]? = some u → wl.cell? ((⟨wr.heap.size, 0, none⟩ : Addr).add m) = some u) := World.news_of_block Ll.out
          have HWL : Hid _ := hwl'
          clear hwl' OWr HQ
          go_wp2_with (first
            | (at_builtin; refine wpList_append_own _ rfl (.tmp 32) (.tmp 34) 24 rfl (w.heap.size + 2) 39 j0 (.agg #[.slice none 0 0]) 1 24 Tryd.underlying24 hj0 hy0 hy1 hy2 rfl (by decide) _ ps.length us rfl (by rw [HWL.out]; exact HROW.out) ⟨wr.heap.size, 0, none⟩ 1 1 [.slice va vm vc] rfl rfl (by rw [HWL.out]; exact hcs.out) (by simp [Value.oneCell']) (by unfold maxLen; omega) (by omega) (by rw [HWL.out]; omega) ?_; intro v3 w3 own3 grow3 _; refine stop_of14 ?_)
            | go_in)
          rw [HWL.out] at grow3
          have grow3 : wl.grownBy w3 (Value.slice ua um uc).ownBlock := grow3
          obtain ⟨g3, c3, rfl, hg3⟩ := own_form3R own3 (by omega)
          have G3 : Below (w.heap.size + 2) wo w3 := (bLo.mono (by omega)).grown grow3 (by omega) (fun k hk => (HROW.out.lt k hk).1)
          have z3 := G3.size
          have HO3 : Hid (Own13 w3 (w.heap.size + 2) (.slice (some ⟨g3, 0, none⟩) (ps.length + 1) c3) (us ++ [.slice va vm vc]) (ps ++ [q])) := Own13.app OWl.out (own_mono Vl.out (by omega)) HFR.out grow3 own3
          have BO3 := (G3.block (w.heap.size + 1) (by omega)).trans HR.out.box
          obtain ⟨dO3, fO3⟩ := one_cell BO3
          have hlr : w3.ownsRow (w.heap.size + 2) 9 1 (.slice (some ⟨lg, 0, none⟩) ls.length lc) ls.length (ls.map .string) := own_grown (own_kept HR.out.row bLo) grow3 (fun k hk e => kind13 (own_kept HR.out.row bLo) HROW.out (by decide) k hk e)
          have HST5 : Hid (PrB w s (.slice (some ⟨lg, 0, none⟩) ls.length lc) ls (i + 1) (.slice (some ⟨g3, 0, none⟩) (ps.length + 1) c3) (us ++ [.slice va vm vc]) (ps ++ [q]) (w3.setCell ⟨w.heap.size + 1, 0, none⟩ (.slice (some ⟨g3, 0, none⟩) (ps.length + 1) c3))) :=
            ⟨(Below.heap_setCell _ _ _ _ (by simp)).trans ((G3.block _ (by omega)).trans HR.out.res), one_set BO3 _, HO3.out.grown (grown_setRow13 _ _ _ _) (fun k hk => .inl (by have := Option.some.inj hk; omega)),
              own_grown hlr (grown_setRow13 _ _ _ _) (fun k hk e => by have h1 := (hlr.lt k hk).1; have h2 := Option.some.inj e; omega),
              (HR.out.low.trans (G3.mono (by omega))).setCell (by simp) _, HLW.out, by simp; omega⟩
          clear own3 grow3 G3 BO3 BO HO3 HLW hlr HFR HROW OWl Vl Ll bl bLo hcs HWL HX HV HB HR HWO hpl
          unfold Stop14
          go_wp2
          go_roundw
          case rel => exact ⟨i + 1, _, _, _, by go_num, by omega, HST5.out⟩
          case measure => simp [intOf]; omega
    · have hlt9 : ¬ (i : Int) < (ls.length : Int) := by omega
      have hil : i = ls.length := by omega
      have HPA : Hid (∀ qs : List (List Stm), programOk qs = true → showT qs = toL s → ps = qs) := PI.all HLS.out (by have := HR.out.pi; rw [hil] at this; exact this)
      have HB : Hid (Below w.heap.size w wr) := HR.out.low
      have R0 := HR.out.res
      have R1 := HR.out.box
      have HO : Hid (Own13 wr (w.heap.size + 2) u us ps) := HR.out.own
      obtain ⟨ua, um, uc, rfl⟩ := own_slice HO.out.row
      have d1 := (one_cell R1).1
      obtain ⟨e0, f0⟩ := one_cell R0
      have R3 := one_set R0 (.slice ua um uc)
      have e3 := (one_cell R3).1
      have HB3 : Hid (Below w.heap.size w (wr.setCell ⟨w.heap.size, 0, none⟩ (.slice ua um uc))) := HB.out.setCell (Nat.le_refl _) _
      have HO3 : Hid (Own13 (wr.setCell ⟨w.heap.size, 0, none⟩ (.slice ua um uc)) w.heap.size (.slice ua um uc) us ps) := (HO.out.grown (grown_setRow13 _ _ _ _) (fun k hk => .inl (by have := Option.some.inj hk; omega))).mono (by omega)
      clear HR hil hlt R0 R1 R3 HB HO
      go_wp2
      refine bodyPost_ret (v := .agg #[.slice ua um uc]) (by simp [results, Tryd.results21, go_sem, e3]) rfl ?_
      exact ⟨_, us, ps, rfl, HB3.out, HO3.out, HPA.out⟩

end Go.Proofs.YtjdmmpdcafbneaaDoor
