/-
  Chapter 13, texts: spec.ReadProgram.
-/
import Derived.Test.YtjdmmpdcafbneaaDoorReadL
import Derived.Test.YtjdmmpdcafbneaaDoorG38CloS14
namespace Go.Proofs.YtjdmmpdcafbneaaDoor
open Go.RowKit
set_option linter.unusedVariables false
set_option linter.unusedSimpArgs false
set_option maxHeartbeats 4000000
set_option maxRecDepth 20000

/-- What ReadProgram answers, in memory. -/
def RpP (s : ByteArray) (w : World) (r : Ending) (w' : World) : Prop := ∃ (u : Value) (us : List Value) (ps : List (List Stm)) (b : Bool),
  r = .returned (.tuple #[.agg #[u], .bool b]) ∧ Below w.heap.size w w' ∧ Own13 w' w.heap.size u us ps ∧ IsRead (toL s) (if b = true then some ps else none) ∧ (b = false → u = .slice none 0 0 ∧ us = [] ∧ ps = [])

theorem rp_no {s : ByteArray} {w w' : World} (h : IsRead (toL s) none) (hb : Below w.heap.size w w') : RpP s w (.returned (.tuple #[.agg #[.slice none 0 0], .bool false])) w' :=
  ⟨_, [], [], false, rfl, hb, own13_nil _ _, by simpa using h, fun _ => ⟨rfl, rfl, rfl⟩⟩

theorem rp_yes {s : ByteArray} {w w' : World} {u : Value} {us : List Value} {ps : List (List Stm)} (h : IsRead (toL s) (some ps)) (hb : Below w.heap.size w w') (ho : Own13 w' w.heap.size u us ps) : RpP s w (.returned (.tuple #[.agg #[u], .bool true])) w' :=
  ⟨_, us, ps, true, rfl, hb, ho, by simpa using h, fun h => by cases h⟩

/-- What is read of the first lines. -/
structure LW (L : List (List UInt8)) (i : Nat) (ps : List (List Stm)) : Prop where
  w : ps.map (fun p => p.map stmtT) = (L.take i).map (splitT 32)
  ok : ∀ p ∈ ps, ∀ t ∈ p, stmtOk t.k t.x t.y = true

theorem LW.zero (L : List (List UInt8)) : LW L 0 [] := ⟨by simp, fun p h => by simp at h⟩
theorem LW.len {L : List (List UInt8)} {i : Nat} {ps : List (List Stm)} (h : LW L i ps) (hi : i ≤ L.length) : ps.length = i := by
  have := congrArg List.length h.w
  simp at this
  omega

/-- What is read of the first words of a line. -/
structure WW (W : List (List UInt8)) (j : Nat) (q : List Stm) : Prop where
  w : q.map stmtT = W.take j
  ok : ∀ t ∈ q, stmtOk t.k t.x t.y = true

theorem WW.zero (W : List (List UInt8)) : WW W 0 [] := ⟨by simp, fun p h => by simp at h⟩
theorem WW.len {W : List (List UInt8)} {j : Nat} {q : List Stm} (h : WW W j q) (hj : j ≤ W.length) : q.length = j := by
  have := congrArg List.length h.w
  simp at this
  omega
theorem WW.step {W : List (List UInt8)} {j : Nat} {q : List Stm} (h : WW W j q) (hj : j < W.length) {t : Stm} (ht : stmtOk t.k t.x t.y = true) (e : stmtT t = W[j]) : WW W (j + 1) (q ++ [t]) := by
  refine ⟨?_, fun u hu => ?_⟩
  · rw [List.map_append, h.w, List.take_succ_eq_append_getElem hj, ← e]; rfl
  · rcases List.mem_append.1 hu with hu | hu
    · exact h.ok u hu
    · simp at hu; subst hu; exact ht
theorem LW.step {L : List (List UInt8)} {i : Nat} {ps : List (List Stm)} (h : LW L i ps) (hi : i < L.length) {q : List Stm} {j : Nat} (hq : WW (splitT 32 L[i]) j q) (hj : (splitT 32 L[i]).length ≤ j) : LW L (i + 1) (ps ++ [q]) := by
  refine ⟨?_, fun p hp => ?_⟩
  · rw [List.map_append, h.w, List.take_succ_eq_append_getElem hi, List.map_append]
    have := hq.w
    rw [List.take_of_length_le hj] at this
    simp [this]
  · rcases List.mem_append.1 hp with hp | hp
    · exact h.ok p hp
    · simp at hp; subst hp; exact hq.ok

theorem LW.all {s : ByteArray} {ls : List ByteArray} {ps : List (List Stm)} (hl : ls.map toL = splitT 59 (toL s)) (h : LW (ls.map toL) ls.length ps) : ps.map (fun p => p.map stmtT) = wordsT (toL s) := by
  rw [h.w, List.take_of_length_le (by simp), hl]
  rfl

theorem no_word {s : ByteArray} {ls ws : List ByteArray} {i j : Nat} (hl : ls.map toL = splitT 59 (toL s)) (hi : i < ls.length) (hw : ws.map toL = splitT 32 (toL ls[i])) (hj : j < ws.length) (hn : ∀ u : Stm, stmtOk u.k u.x u.y = true → stmtT u ≠ toL ws[j]) : IsRead (toL s) none := by
  refine isRead_no_word (ws := ws.map toL) (w := toL ws[j]) ?_ (List.mem_map_of_mem (List.getElem_mem hj)) hn
  unfold wordsT
  rw [← hl, hw]
  exact List.mem_map_of_mem (List.mem_map_of_mem (List.getElem_mem hi))

theorem split_len (sep : UInt8) : ∀ (D : List UInt8), (splitT sep D).length ≤ D.length + 1
  | [] => by simp [splitT]
  | c :: cs => by
    have ih := split_len sep cs
    by_cases hc : c = sep
    · subst hc
      rw [splitT_sep]
      simp; omega
    · cases hs : splitT sep cs with
      | nil => exact absurd hs (splitT_ne sep cs)
      | cons a l =>
        rw [hs] at ih
        rw [splitT_cons hc hs]
        simp at ih ⊢; omega

theorem own_lenR {w : World} {base : Nat} {t : TypeId} {sz : Nat} {a : Option Addr} {m c n : Nat} {xs : List Value} (h : w.ownsRow base t sz (.slice a m c) n xs) : m = n := by
  rcases h.2 with ⟨e, h0⟩ | ⟨g, cap, cur, e, _⟩
  · injection e with _ e2 _; omega
  · injection e with _ e2 _

theorem own_form3R {w : World} {base : Nat} {e : TypeId} {sz n : Nat} {v : Value} {xs : List Value} (h : w.ownsRow base e sz v n xs) (hn : 1 ≤ n) : ∃ g cap, v = .slice (some ⟨g, 0, none⟩) n cap ∧ base ≤ g := by
  rcases h.2 with ⟨_, h0⟩ | ⟨g, cap, cur, rfl, hb, _⟩
  · omega
  · exact ⟨g, cap, rfl, hb⟩

/-- What the loop over lines has in hand. -/
structure RdB (w : World) (s : ByteArray) (vl : Value) (ls : List ByteArray) (i : Nat) (u : Value) (us : List Value) (ps : List (List Stm)) (W : World) : Prop where
  res : W.heap[w.heap.size]? = some (.cells #[.slice none 0 0] 26 (0, 0))
  box : W.heap[w.heap.size + 1]? = some (.cells #[u] 26 (0, 0))
  own : Own13 W (w.heap.size + 2) u us ps
  row : W.ownsRow (w.heap.size + 2) 9 1 vl ls.length (ls.map .string)
  low : Below w.heap.size w W
  lw : LW (ls.map toL) i ps

theorem specRead (s : ByteArray) (w : World) (hs : s.size ≤ 1048576) : Calls Tryd.prog 9 #[.string s] w (RpP s w) := by
  obtain ⟨i0, hi0, hz0, hz1, hz2⟩ := info_parts infoStmt
  obtain ⟨j0, hj0, hy0, hy1, hy2⟩ := info_parts infoProc
  have hsz := toL_len s
  by_cases h1000 : 1000 < s.size
  · have h9 : (1000 : Int) < (s.size : Int) := by omega
    have HN : Hid _ := isRead_long (s := toL s) (by omega)
    clear hsz h1000
    have H0 : ((w.alloc (.cells #[.slice none 0 0] 26)).alloc (.cells #[.slice none 0 0] 26)).heap[w.heap.size]? = some (.cells #[.slice none 0 0] 26 (0, 0)) := (old_block (by simp)).trans (heap_alloc_new w _)
    have d0 := (one_cell H0).1
    have HB : Hid (Below w.heap.size w ((w.alloc (.cells #[.slice none 0 0] 26)).alloc (.cells #[.slice none 0 0] 26))) := by show Below _ _ _; go_grown
    go_enter Tryd.func9, Tryd.ntmps9
    go_wp2
    refine bodyPost_ret (v := .tuple #[.agg #[.slice none 0 0], .bool false]) (by simp [results, Tryd.results9, go_sem, d0]) rfl ?_
    exact rp_no HN.out HB.out
  · have h9 : ¬ (1000 : Int) < (s.size : Int) := by omega
    obtain ⟨W0, hW0⟩ : ∃ W0, (w.alloc (.cells #[.slice none 0 0] 26)).alloc (.cells #[.slice none 0 0] 26) = W0 := ⟨_, rfl⟩
    have b0 : Below w.heap.size w W0 := by rw [← hW0]; go_grown
    have s0 : W0.heap.size = w.heap.size + 2 := by rw [← hW0]; simp
    have H0 : W0.heap[w.heap.size]? = some (.cells #[.slice none 0 0] 26 (0, 0)) := by rw [← hW0, old_block (by simp)]; exact heap_alloc_new w _
    have H1 : W0.heap[w.heap.size + 1]? = some (.cells #[.slice none 0 0] 26 (0, 0)) := by
      rw [← hW0]
      have := heap_alloc_new (w.alloc (.cells #[.slice none 0 0] 26)) (.cells #[.slice none 0 0] 26)
      simpa using this
    have HW0 : Hid _ := hW0
    clear hW0
    go_enter Tryd.func9, Tryd.ntmps9
    go_wp2_with fail
    rw [HW0.out]
    go_at_call 22
    refine (l1Split s 59 _ (by omega)).mono ?_
    rintro e w1 ⟨vl, ls, rfl, hown, b1, hls⟩
    rw [s0] at hown
    obtain ⟨la, lm, lc, rfl⟩ := own_slice hown
    have hlm := own_lenR hown
    subst hlm
    have hll : ls.length ≤ 1001 := by
      have := congrArg List.length hls
      rw [List.length_map] at this
      rw [this]
      have := split_len 59 (toL s)
      omega
    have HLS : Hid _ := hls
    have HST : Hid (RdB w s (.slice la ls.length lc) ls 0 (.slice none 0 0) [] [] w1) := ⟨(b1.block _ (by omega)).trans H0, (b1.block _ (by omega)).trans H1, own13_nil _ _, hown, b0.trans (b1.mono b0.size), LW.zero _⟩
    clear hown b1 b0 H0 H1 HW0 hls s0
    go_wp2_with fail
    go_loopw [6] (fun x wr => ∃ (i : Nat) (u : Value) (us : List Value) (ps : List (List Stm)), x = .int .i64 i ∧ i ≤ ls.length ∧ Hid (RdB w s (.slice la ls.length lc) ls i u us ps wr)) (fun x _ => ls.length - (intOf x).toNat)
    case atStart => exact ⟨0, _, _, _, rfl, by omega, HST.out⟩
    case round =>
      obtain ⟨i, u, us, ps, rfl, hi, HR⟩ := hrel
      clear HST
      by_cases hlt : i < ls.length
      · have hlt9 : (i : Int) < (ls.length : Int) := by omega
        have hrow := HR.out.row
        obtain ⟨lg, lc', hla⟩ := own_formR hrow (by omega)
        injection hla with hla1 _ hla3
        subst hla1 hla3
        have q0 : wr.cell? ⟨lg, i, none⟩ = some (.string ls[i]) := (hrow.cellAt i (by omega)).trans (by simp [hlt])
        have hsi : ls[i].size ≤ 1000 := part_size HLS.out (List.getElem_mem _) (n := s.size) (Nat.le_refl _) (by omega)
        have hwz : w.heap.size + 2 ≤ wr.heap.size := by have := (Array.getElem?_eq_some_iff.1 HR.out.box).1; omega
        clear hrow
        go_wp2_with fail
        go_at_call 22
        refine (l1Split ls[i] 32 _ (by omega)).mono ?_
        rintro e w5 ⟨vw, ws, rfl, hown, b5, hws⟩
        obtain ⟨wa, wm, wc, rfl⟩ := own_slice hown
        have hwm := own_lenR hown
        subst hwm
        have hwl : ws.length ≤ 1001 := by
          have := congrArg List.length hws
          rw [List.length_map] at this
          rw [this]
          have := split_len 32 (toL ls[i])
          have h8 := toL_len ls[i]
          omega
        have HWS : Hid _ := hws
        have HOW : Hid (w5.ownsRow wr.heap.size 9 1 (.slice wa ws.length wc) ws.length (ws.map .string)) := hown
        have z5 := b5.size
        have HR5 : Hid (RdB w s (.slice (some ⟨lg, 0, none⟩) ls.length lc) ls i u us ps w5) := ⟨(b5.block _ (by omega)).trans HR.out.res, (b5.block _ (by omega)).trans HR.out.box, HR.out.own.kept b5, own_kept HR.out.row b5, HR.out.low.trans (b5.mono HR.out.low.size), HR.out.lw⟩
        clear HR b5 hown hws q0
        obtain ⟨wx, hwx⟩ : ∃ wx, w5.alloc (.cells #[.slice none 0 0] 39) = wx := ⟨_, rfl⟩
        have bX : Below w5.heap.size w5 wx := by rw [← hwx]; go_grown
        have XB : wx.heap[w5.heap.size]? = some (.cells #[.slice none 0 0] 39 (0, 0)) := by rw [← hwx]; exact heap_alloc_new _ _
        have HWX : Hid _ := hwx
        clear hwx
        go_wp2_with fail
        rw [HWX.out]
        clear HWX
        go_loopw [9] (fun x wr => ∃ (j : Nat) (v : Value) (q : List Stm), x = .int .i64 j ∧ j ≤ ws.length ∧ Hid (WW (ws.map toL) j q) ∧ Hid (wr.heap[w5.heap.size]? = some (.cells #[v] 39 (0, 0))) ∧ Hid (wr.ownsRow (w5.heap.size + 1) 42 3 v q.length (cells3 q)) ∧ Hid (Below w5.heap.size w5 wr)) (fun x _ => ws.length - (intOf x).toNat)
        case atStart => exact ⟨0, _, [], rfl, by omega, WW.zero _, XB, ⟨rfl, .inl ⟨rfl, rfl⟩⟩, bX⟩
        case round =>
          obtain ⟨j, v, q, rfl, hj, HQ, HX, HV, HB⟩ := hrel
          clear XB bX
          by_cases hjt : j < ws.length
          · have hjt9 : (j : Int) < (ws.length : Int) := by omega
            obtain ⟨wg, wc', hwa⟩ := own_formR HOW.out (by omega)
            injection hwa with hwa1 _ hwa3
            subst hwa1 hwa3
            have q5 : w5.cell? ⟨wg, j, none⟩ = some (.string ws[j]) := (HOW.out.cellAt j (by omega)).trans (by simp [hjt])
            have q0 : wr.cell? ⟨wg, j, none⟩ = some (.string ws[j]) := (HB.out.cell (World.block_lt_of_cell? w5 _ q5)).trans q5
            have hsj : ws[j].size ≤ 100000 := part_size HWS.out (List.getElem_mem _) (n := ls[i].size) (Nat.le_refl _) (by omega)
            have zr := HB.out.size
            clear q5
            go_wp2_with fail
            go_at_call 23
            refine (l13Read ws[j] _ hsj).mono ?_
            rintro e w6 ⟨⟨tk, tx, ty⟩, tb, rfl, b6, ht, hf⟩
            have z6 := b6.size
            have HB6 : Hid (Below w5.heap.size w5 w6) := HB.out.trans (b6.mono zr)
            cases tb
            · have HN : Hid (IsRead (toL s) none) := no_word HLS.out hlt HWS.out hjt (hf rfl)
              obtain ⟨wy, hwy⟩ : ∃ wy, w6.alloc (.cells #[.int .i64 tk, .int .i64 tx, .int .i64 ty] 42) = wy := ⟨_, rfl⟩
              have by6 : Below w6.heap.size w6 wy := by rw [← hwy]; go_grown
              have HBY : Below w5.heap.size w5 wy := HB6.out.trans (by6.mono HB6.out.size)
              have R6 : wy.heap[w.heap.size]? = some (.cells #[.slice none 0 0] 26 (0, 0)) := (HBY.block _ (by omega)).trans HR5.out.res
              obtain ⟨e0, f0⟩ := one_cell R6
              have e3 := (one_cell (one_set R6 (.slice none 0 0))).1
              have HBF : Hid (Below w.heap.size w (wy.setCell ⟨w.heap.size, 0, none⟩ (.slice none 0 0))) := (HR5.out.low.trans (HBY.mono HR5.out.low.size)).setCell (Nat.le_refl _) _
              clear HQ HX HV HB ht hf by6 HBY R6
              go_wp2
              refine bodyPost_ret (v := .tuple #[.agg #[.slice none 0 0], .bool false]) (by simp [results, Tryd.results9, go_sem, e3]) rfl ?_
              exact rp_no HN.out HBF.out
            · obtain ⟨ht1, ht2⟩ := ht rfl
              have HQ2 : Hid (WW (ws.map toL) (j + 1) (q ++ [⟨tk, tx, ty⟩])) := HQ.out.step (by simpa using hjt) ht1 (by simpa using ht2)
              have hql : q.length ≤ 1001 := by have := HQ.out.len (by simp; omega); omega
              obtain ⟨wl, hwl⟩ : ∃ wl, (w6.alloc (.cells #[.int .i64 tk, .int .i64 tx, .int .i64 ty] 42)).alloc (.cells #[.int .i64 tk, .int .i64 tx, .int .i64 ty] 42) = wl := ⟨_, rfl⟩
              have bl : Below w6.heap.size w6 wl := by rw [← hwl]; go_grown
              have Ll : Hid (wl.heap[w6.heap.size + 1]? = some (.cells #[.int .i64 tk, .int .i64 tx, .int .i64 ty] 42 (0, 0))) := by
                show wl.heap[w6.heap.size + 1]? = _
                rw [← hwl]
                have := heap_alloc_new (w6.alloc (.cells #[.int .i64 tk, .int .i64 tx, .int .i64 ty] 42)) (.cells #[.int .i64 tk, .int .i64 tx, .int .i64 ty] 42)
                simpa using this
              have Vl : Hid (wl.ownsRow (w5.heap.size + 1) 42 3 v q.length (cells3 q)) := own_kept (own_kept HV.out b6) bl
              have zl := bl.size
              have bLo : Hid (Below w5.heap.size w5 wl) := HB6.out.trans (bl.mono HB6.out.size)
              have hcs : Hid (∀ m u, (cells3 [⟨tk, tx, ty⟩])[m]? = some u → wl.cell? ((⟨w6.heap.size + 1, 0, none⟩ : Addr).add m) = some u) := World.news_of_block Ll.out
              have X6 : w6.heap[w5.heap.size]? = some (.cells #[v] 39 (0, 0)) := (b6.block _ (by have := (Array.getElem?_eq_some_iff.1 HX.out).1; exact this)).trans HX.out
              have hxl := (Array.getElem?_eq_some_iff.1 X6).1
              obtain ⟨va, vm, vc, rfl⟩ := own_slice HV.out
              have x6 := (one_cell X6).1
              have XL : Hid (wl.heap[w5.heap.size]? = some (.cells #[.slice va vm vc] 39 (0, 0))) := (bl.block _ hxl).trans X6
              have HWL : Hid _ := hwl
              clear hwl ht hf HQ HX HV X6
              go_wp2_with (first
                | (at_builtin; refine wpList_append_own _ rfl (.tmp 49) (.tmp 51) 37 rfl (w5.heap.size + 1) 42 i0 (.agg #[.int .i64 0, .int .i64 0, .int .i64 0]) 3 24 Tryd.underlying37 hi0 hz0 hz1 hz2 rfl (by decide) _ q.length (cells3 q) rfl (by rw [HWL.out]; exact Vl.out) ⟨w6.heap.size + 1, 0, none⟩ 1 1 (cells3 [⟨tk, tx, ty⟩]) rfl rfl (by rw [HWL.out]; exact hcs.out) (by simp [cells3, Value.oneCell']) (by unfold maxLen; omega) (by omega) (by rw [HWL.out]; omega) ?_; intro v3 w3 own3 grow3 _; refine stop_of14 ?_)
                | go_in)
              rw [HWL.out] at grow3
              have grow3 : wl.grownBy w3 (Value.slice va vm vc).ownBlock := grow3
              obtain ⟨g3, c3, rfl, hg3⟩ := own_form3R own3 (by omega)
              have G3 : Below w5.heap.size w5 w3 := bLo.out.grown grow3 bLo.out.size (fun k hk => by have := (Vl.out.lt k hk).1; omega)
              have X3 : w3.heap[w5.heap.size]? = some (.cells #[.slice va vm vc] 39 (0, 0)) := (grow3.block _ (by omega) (fun e => by have := (Vl.out.lt _ (by first | exact e | exact e.symm)).1; omega)).trans XL.out
              obtain ⟨x3, f3⟩ := one_cell X3
              have X4 : Hid ((w3.setCell ⟨w5.heap.size, 0, none⟩ (.slice (some ⟨g3, 0, none⟩) (q.length + 1) c3)).heap[w5.heap.size]? = some (.cells #[.slice (some ⟨g3, 0, none⟩) (q.length + 1) c3] 39 (0, 0))) := one_set X3 _
              have V4 : Hid ((w3.setCell ⟨w5.heap.size, 0, none⟩ (.slice (some ⟨g3, 0, none⟩) (q.length + 1) c3)).ownsRow (w5.heap.size + 1) 42 3 (.slice (some ⟨g3, 0, none⟩) (q.length + 1) c3) (q ++ [(⟨tk, tx, ty⟩ : Stm)]).length (cells3 (q ++ [(⟨tk, tx, ty⟩ : Stm)]))) := by
                show World.ownsRow _ _ _ _ _ _ _
                rw [cells3_append, List.length_append]
                exact own_grown own3 (grown_setRow13 _ _ _ _) (fun k hk e => by have h1 : g3 = k := Option.some.inj hk; have h2 := Option.some.inj e; omega)
              have HB4 : Hid (Below w5.heap.size w5 (w3.setCell ⟨w5.heap.size, 0, none⟩ (.slice (some ⟨g3, 0, none⟩) (q.length + 1) c3))) := G3.setCell (Nat.le_refl _) _
              clear own3 grow3 G3 X3 XL Vl bLo bl Ll hcs HWL
              unfold Stop14
              go_wp2
              go_roundw
              case rel => exact ⟨j + 1, _, _, by go_num, by omega, HQ2.out, X4.out, V4.out, HB4.out⟩
              case measure => simp [intOf]; omega
          · have hjt9 : ¬ (j : Int) < (ws.length : Int) := by omega
            have hjj : j = ws.length := by omega
            have zr := HB.out.size
            have HLW : Hid (LW (ls.map toL) (i + 1) (ps ++ [q])) := HR5.out.lw.step (by simpa using hlt) (j := j) (by have := HQ.out; rw [HWS.out] at this; simpa using this) (by rw [hjj]; have := congrArg List.length HWS.out; rw [List.length_map] at this; simp [this])
            have OWr : Own13 wr (w.heap.size + 2) u us ps := HR5.out.own.kept HB.out
            have hpl : ps.length ≤ 1001 := by have := HR5.out.lw.len (by simp; omega); omega
            have hxl := (Array.getElem?_eq_some_iff.1 HX.out).1
            obtain ⟨ua, um, uc, rfl⟩ := own_slice OWr.row
            obtain ⟨va, vm, vc, rfl⟩ := own_slice HV.out
            have BO := (HB.out.block (w.heap.size + 1) (by omega)).trans HR5.out.box
            have dO := (one_cell BO).1
            have dX := (one_cell HX.out).1
            obtain ⟨wl, hwl⟩ : ∃ wl, wr.alloc (.cells #[.slice va vm vc] 39) = wl := ⟨_, rfl⟩
            have bl : Below wr.heap.size wr wl := by rw [← hwl]; go_grown
            have Ll : Hid (wl.heap[wr.heap.size]? = some (.cells #[.slice va vm vc] 39 (0, 0))) := by
              show wl.heap[wr.heap.size]? = _
              rw [← hwl]; exact heap_alloc_new wr _
            have zl := bl.size
            have OWl : Hid (Own13 wl (w.heap.size + 2) (.slice ua um uc) us ps) := OWr.kept bl
            have Vl : Hid (wl.ownsRow (w5.heap.size + 1) 42 3 (.slice va vm vc) q.length (cells3 q)) := own_kept HV.out bl
            have bLo : Below w5.heap.size w5 wl := HB.out.trans (bl.mono zr)
            have HFR : Hid (∀ y ∈ us, ∀ k, y.ownBlock = some k → (Value.slice va vm vc).ownBlock ≠ some k) := fun y hy k hk e => by (have h1 := HR5.out.own.lts y hy k hk; have h2 := (HV.out.lt k e).1; omega)
            have HROW : Hid (wl.ownsRow (w.heap.size + 2) 39 1 (.slice ua um uc) ps.length us) := OWl.out.row
            have hcs : Hid (∀ m u, [Value.slice va vm vc][m]? = some u → wl.cell? ((⟨wr.heap.size, 0, none⟩ : Addr).add m) = some u) := World.news_of_block Ll.out
            have HWL : Hid _ := hwl
            clear hwl OWr HQ
            go_wp2_with (first
              | (at_builtin; refine wpList_append_own _ rfl (.tmp 55) (.tmp 57) 24 rfl (w.heap.size + 2) 39 j0 (.agg #[.slice none 0 0]) 1 24 Tryd.underlying24 hj0 hy0 hy1 hy2 rfl (by decide) _ ps.length us rfl (by rw [HWL.out]; exact HROW.out) ⟨wr.heap.size, 0, none⟩ 1 1 [.slice va vm vc] rfl rfl (by rw [HWL.out]; exact hcs.out) (by simp [Value.oneCell']) (by unfold maxLen; omega) (by omega) (by rw [HWL.out]; omega) ?_; intro v3 w3 own3 grow3 _; refine stop_of14 ?_)
              | go_in)
            rw [HWL.out] at grow3
            have grow3 : wl.grownBy w3 (Value.slice ua um uc).ownBlock := grow3
            obtain ⟨g3, c3, rfl, hg3⟩ := own_form3R own3 (by omega)
            have G3 : Below (w.heap.size + 2) w5 w3 := (bLo.mono (by omega)).grown grow3 (by omega) (fun k hk => (HROW.out.lt k hk).1)
            have z3 := G3.size
            have HO3 : Hid (Own13 w3 (w.heap.size + 2) (.slice (some ⟨g3, 0, none⟩) (ps.length + 1) c3) (us ++ [.slice va vm vc]) (ps ++ [q])) := Own13.app OWl.out (own_mono Vl.out (by omega)) HFR.out grow3 own3
            have BO3 := (G3.block (w.heap.size + 1) (by omega)).trans HR5.out.box
            obtain ⟨dO3, fO3⟩ := one_cell BO3
            have hlr : w3.ownsRow (w.heap.size + 2) 9 1 (.slice (some ⟨lg, 0, none⟩) ls.length lc) ls.length (ls.map .string) := own_grown (own_kept HR5.out.row bLo) grow3 (fun k hk e => kind13 (own_kept HR5.out.row bLo) HROW.out (by decide) k hk e)
            have HST5 : Hid (RdB w s (.slice (some ⟨lg, 0, none⟩) ls.length lc) ls (i + 1) (.slice (some ⟨g3, 0, none⟩) (ps.length + 1) c3) (us ++ [.slice va vm vc]) (ps ++ [q]) (w3.setCell ⟨w.heap.size + 1, 0, none⟩ (.slice (some ⟨g3, 0, none⟩) (ps.length + 1) c3))) :=
              ⟨(Below.heap_setCell _ _ _ _ (by simp)).trans ((G3.block _ (by omega)).trans HR5.out.res), one_set BO3 _, HO3.out.grown (grown_setRow13 _ _ _ _) (fun k hk => .inl (by have := Option.some.inj hk; omega)),
                own_grown hlr (grown_setRow13 _ _ _ _) (fun k hk e => by have h1 := (hlr.lt k hk).1; have h2 := Option.some.inj e; omega),
                (HR5.out.low.trans (G3.mono (by omega))).setCell (by simp) _, HLW.out⟩
            clear own3 grow3 G3 BO3 BO HO3 HLW hlr HFR HROW OWl Vl Ll bl bLo hcs HWL HX HV HB HR5 HOW
            unfold Stop14
            go_wp2
            go_roundw
            case rel => exact ⟨i + 1, _, _, _, by go_num, by omega, HST5.out⟩
            case measure => simp [intOf]; omega
      · have hlt9 : ¬ (i : Int) < (ls.length : Int) := by omega
        have hil : i = ls.length := by omega
        have HWO : Hid (ps.map (fun p => p.map stmtT) = wordsT (toL s)) := LW.all HLS.out (by have := HR.out.lw; rw [hil] at this; exact this)
        have HOK : Hid (∀ p ∈ ps, ∀ t ∈ p, stmtOk t.k t.x t.y = true) := HR.out.lw.ok
        have HB : Hid (Below w.heap.size w wr) := HR.out.low
        have R0 := HR.out.res
        have R1 := HR.out.box
        have HO : Hid (Own13 wr (w.heap.size + 2) u us ps) := HR.out.own
        obtain ⟨hpl, hpp⟩ := HO.out.small
        have hpk := specProgramOk ps u wr hpl hpp (readsP_own HO.out.ownP)
        obtain ⟨ua, um, uc, rfl⟩ := own_slice HO.out.row
        have d1 := (one_cell R1).1
        clear HR hil hlt hpl hpp
        cases hok : programOk ps
        · rw [hok] at hpk
          have HN : Hid (IsRead (toL s) none) := isRead_no_program HWO.out HOK.out hok
          go_wp2_with fail
          go_at_call 24
          refine hpk.mono ?_
          rintro e w2 ⟨rfl, b2⟩
          have HB2 : Hid (Below w.heap.size w w2) := HB.out.trans (b2.mono HB.out.size)
          have R2 := (b2.block _ (Array.getElem?_eq_some_iff.1 R0).1).trans R0
          obtain ⟨e0, f0⟩ := one_cell R2
          have R3 := one_set R2 (.slice none 0 0)
          have e3 := (one_cell R3).1
          have HB3 : Hid (Below w.heap.size w (w2.setCell ⟨w.heap.size, 0, none⟩ (.slice none 0 0))) := HB2.out.setCell (Nat.le_refl _) _
          clear R0 R1 R2 R3 b2 HB hpk
          go_wp2
          refine bodyPost_ret (v := .tuple #[.agg #[.slice none 0 0], .bool false]) (by simp [results, Tryd.results9, go_sem, e3]) rfl ?_
          exact rp_no HN.out HB3.out
        · rw [hok] at hpk
          have HN : Hid (IsRead (toL s) (some ps)) := isRead_words HWO.out hok
          go_wp2_with fail
          go_at_call 24
          refine hpk.mono ?_
          rintro e w2 ⟨rfl, b2⟩
          have HB2 : Hid (Below w.heap.size w w2) := HB.out.trans (b2.mono HB.out.size)
          have R2 := (b2.block _ (Array.getElem?_eq_some_iff.1 R0).1).trans R0
          have Q2 := (one_cell ((b2.block _ (Array.getElem?_eq_some_iff.1 R1).1).trans R1)).1
          have HO2 : Hid (Own13 w2 (w.heap.size + 2) (.slice ua um uc) us ps) := HO.out.kept b2
          obtain ⟨e0, f0⟩ := one_cell R2
          have R3 := one_set R2 (.slice ua um uc)
          have e3 := (one_cell R3).1
          have HB3 : Hid (Below w.heap.size w (w2.setCell ⟨w.heap.size, 0, none⟩ (.slice ua um uc))) := HB2.out.setCell (Nat.le_refl _) _
          have HO3 : Hid (Own13 (w2.setCell ⟨w.heap.size, 0, none⟩ (.slice ua um uc)) w.heap.size (.slice ua um uc) us ps) := (HO2.out.grown (grown_setRow13 _ _ _ _) (fun k hk => .inl (by have := Option.some.inj hk; omega))).mono (by omega)
          clear R0 R1 R2 R3 b2 HB hpk HO HO2
          go_wp2
          refine bodyPost_ret (v := .tuple #[.agg #[.slice ua um uc], .bool true]) (by simp [results, Tryd.results9, go_sem, e3]) rfl ?_
          exact rp_yes HN.out HB3.out HO3.out

end Go.Proofs.YtjdmmpdcafbneaaDoor
