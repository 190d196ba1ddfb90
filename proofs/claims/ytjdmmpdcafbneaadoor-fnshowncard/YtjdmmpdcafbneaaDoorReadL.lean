/-
  Chapter 13, texts: spec.l13Read (a statement of a word).
-/
import Derived.Test.YtjdmmpdcafbneaaDoorG35ReadW
import Derived.Test.YtjdmmpdcafbneaaDoorShowS
import Derived.Test.YtjdmmpdcafbneaaDoorShowI
import Derived.BigRegion
import Derived.Deep.RegionHeld
namespace Go.Proofs.YtjdmmpdcafbneaaDoor
open Go.RowKit
set_option linter.unusedVariables false
set_option linter.unusedSimpArgs false
set_option maxHeartbeats 4000000
set_option maxRecDepth 20000

/-- As RdP, and of the empty text 0. -/
def RdP0 (s : ByteArray) (w : World) (r : Ending) (w' : World) : Prop := ∃ (n : Int) (b : Bool), r = .returned (.tuple #[.int .i64 n, .bool b]) ∧ w' = w ∧ (∀ m : Nat, m < 100 → toL s = dd2 m → n = m) ∧ (toL s = [] → n = 0)

theorem l1Read0 (s : ByteArray) (w : World) (hl : s.size ≤ 1000000) : Calls Tryd.prog 37 #[.string s] w (RdP0 s w) := by
  by_cases h0 : s.size = 0
  · have he : s = ⟨#[]⟩ := by
      cases s with
      | mk d => simp at h0; rw [h0]; rfl
    subst he
    go_enter Tryd.func37, Tryd.ntmps37
    go_wp2
    refine bodyPost_ret (v := .tuple #[.int .i64 0, .bool false]) (by simp [results, Tryd.results37, go_sem]) rfl ?_
    refine ⟨_, _, rfl, rfl, fun m hm e => ?_, fun _ => rfl⟩
    have := (dd2_facts hm).2.2.1
    rw [← e] at this
    simp [toL] at this
  · refine (l1Read s w hl).mono ?_
    rintro e w' ⟨n, b, h1, h2, h3⟩
    refine ⟨n, b, h1, h2.symm, h3, fun e => ?_⟩
    have := congrArg List.length e
    rw [toL_len] at this
    exact absurd this h0

/-- What the numbers of a right statement's word make. -/
theorem read_back {u : Stm} (hu : stmtOk u.k u.x u.y = true) {k x y : Int} {D : List UInt8} {ps : List (List UInt8)} (hk1 : 1 ≤ k) (hk9 : k ≤ 9) (hD : stmtT u = letter k :: D) (hps : ps = splitT 44 D)
    (hx : ∀ m : Nat, m < 100 → ps.getD 0 [] = dd2 m → x = m) (hxe : ps.getD 0 [] = [] → x = 0) (hy : 1 < ps.length → ∀ m : Nat, m < 100 → ps.getD 1 [] = dd2 m → y = m) (hye : ps.length ≤ 1 → y = 0) :
    u = if k = 7 ∨ k = 8 then ⟨k, 0, x⟩ else ⟨k, x, y⟩ := by
  obtain ⟨n1, n9, nx0, nx5, ny0, ny11⟩ := stmtOk_nums hu
  obtain ⟨h1, h2⟩ := word_split hu
  rw [h1] at hD
  injection hD with hD1 hD2
  have hk : u.k = k := (letter_kind hk1 hk9).2 u.k n1 n9 hD1
  rw [hD2] at h2
  rw [← hps] at h2
  have ex : ((u.x.toNat : Nat) : Int) = u.x := by omega
  have ey : ((u.y.toNat : Nat) : Int) = u.y := by omega
  obtain ⟨uk, ux, uy⟩ := u
  simp only at *
  subst hk
  rcases told_kind (t := ⟨uk, ux, uy⟩) hu with ⟨ht, e1, e2, k7, k8⟩ | ⟨ht, e2, k7, k8⟩ | ⟨ht, k7, k8⟩ | ⟨ht, e1, k78⟩
  · rw [if_pos ht] at h2
    simp only at e1 e2 k7 k8
    rw [h2] at hxe hye
    rw [if_neg (by omega), hxe rfl, hye (by simp), e1, e2]
  · rw [if_neg (by rw [ht]; simp), ht] at h2
    simp only [List.map_cons, List.map_nil] at h2 e2 k7 k8
    rw [h2] at hx hye
    have := hx ux.toNat (by omega) rfl
    rw [if_neg (by omega), this, hye (by simp), e2, ex]
  · rw [if_neg (by rw [ht]; simp), ht] at h2
    simp only [List.map_cons, List.map_nil] at h2 k7 k8
    rw [h2] at hx hy
    have a := hx ux.toNat (by omega) rfl
    have b := hy (by simp) uy.toNat (by omega) rfl
    rw [if_neg (by omega), a, b, ex, ey]
  · rw [if_neg (by rw [ht]; simp), ht] at h2
    simp only [List.map_cons, List.map_nil] at h2 e1 k78
    rw [h2] at hx
    have a := hx uy.toNat (by omega) rfl
    rw [if_pos k78, a, e1, ey]

def LrP (s : ByteArray) (w : World) (r : Ending) (w' : World) : Prop := ∃ (t : Stm) (b : Bool), r = .returned (.tuple #[.agg #[.int .i64 t.k, .int .i64 t.x, .int .i64 t.y], .bool b]) ∧ Below w.heap.size w w' ∧
  (b = true → stmtOk t.k t.x t.y = true ∧ stmtT t = toL s) ∧ (b = false → ∀ u : Stm, stmtOk u.k u.x u.y = true → stmtT u ≠ toL s)

theorem slice_from1 (s : ByteArray) (h2 : 1 ≤ s.size) (w : World) :
    (Instr.slice 9 (.string s) (some (.int .i64 1)) none none).run Tryd.prog w = .ok (.string (s.extract 1 s.size)) w := by
  go_simp
  intro h
  omega

theorem lettersAt (k : Nat) (h1 : 1 ≤ k) (h9 : k ≤ 9) (h : k - 1 < (⟨#[115, 99, 98, 108, 109, 116, 106, 107, 114]⟩ : ByteArray).size) : (⟨#[115, 99, 98, 108, 109, 116, 106, 107, 114]⟩ : ByteArray)[k - 1]'h = letter k := by
  have := letter_get (k := (k : Int)) (by omega) (by omega)
  exact this h

theorem threeC {w : World} {b : Nat} {x0 x1 x2 : Value} {T : TypeId} (h : w.heap[b]? = some (.cells #[x0, x1, x2] T (0, 0))) :
    (w.cell? ⟨b, 0, none⟩ = some x0 ∧ w.cell? ⟨b, 1, none⟩ = some x1 ∧ w.cell? ⟨b, 2, none⟩ = some x2) ∧ ∀ o, w.frozen? ⟨b, o, none⟩ = false := by
  refine ⟨⟨?_, ?_, ?_⟩, fun o => frozen_of_row w b o _ T h⟩ <;> simp [World.cell?, h]

theorem threeS {w : World} {b : Nat} {T : TypeId} {x0 x1 x2 : Value} (y0 y1 y2 : Value) (h : w.heap[b]? = some (.cells #[x0, x1, x2] T (0, 0))) :
    (((w.setCell ⟨b, 0, none⟩ y0).setCell ⟨b, 1, none⟩ y1).setCell ⟨b, 2, none⟩ y2).heap[b]? = some (.cells #[y0, y1, y2] T (0, 0)) := by
  have h0 := heap_setCell_same w b 0 _ _ y0 h
  have h1 := heap_setCell_same _ b 1 _ _ y1 h0
  have h2 := heap_setCell_same _ b 2 _ _ y2 h1
  rw [h2]
  simp

theorem below_three {B b : Nat} {w0 w : World} (h : Below B w0 w) (hB : B ≤ b) (y0 y1 y2 : Value) : Below B w0 (((w.setCell ⟨b, 0, none⟩ y0).setCell ⟨b, 1, none⟩ y1).setCell ⟨b, 2, none⟩ y2) :=
  ((h.setCell hB _).setCell hB _).setCell hB _

theorem own_formR {w : World} {base : Nat} {t : TypeId} {v : Value} {n : Nat} {xs : List Value} (h : w.ownsRow base t 1 v n xs) (hn : 0 < n) : ∃ g cap, v = .slice (some ⟨g, 0, none⟩) n cap := by
  rcases h.2 with ⟨_, h0⟩ | ⟨g, cap, cur, rfl, _⟩
  · omega
  · exact ⟨g, cap, rfl⟩

theorem cell_step3 {W W' : World} {b o : Nat} {x : Value} (h : W.cell? ⟨b, o, none⟩ = some x) (hb : Below W.heap.size W W') : W'.cell? ⟨b, o, none⟩ = some x := (hb.cell (World.block_lt_of_cell? W _ h)).trans h

theorem set3_cell {W : World} {b c o : Nat} {x : Value} (hne : b ≠ c) (h : W.cell? ⟨b, o, none⟩ = some x) (y0 y1 y2 : Value) : (((W.setCell ⟨c, 0, none⟩ y0).setCell ⟨c, 1, none⟩ y1).setCell ⟨c, 2, none⟩ y2).cell? ⟨b, o, none⟩ = some x := by
  unfold World.cell? at h ⊢
  rw [Below.heap_setCell _ _ _ _ (by simpa using hne), Below.heap_setCell _ _ _ _ (by simpa using hne), Below.heap_setCell _ _ _ _ (by simpa using hne)]
  exact h

theorem split_sizes (sep : UInt8) : ∀ (D : List UInt8), ∀ x ∈ splitT sep D, x.length ≤ D.length
  | [], x, h => by simp [splitT] at h; subst h; simp
  | c :: cs, x, h => by
    have ih := split_sizes sep cs
    by_cases hc : c = sep
    · subst hc
      rw [splitT_sep] at h
      rcases List.mem_cons.1 h with rfl | h
      · simp
      · have := ih x h; simp; omega
    · cases hs : splitT sep cs with
      | nil => exact absurd hs (splitT_ne sep cs)
      | cons a l =>
        rw [hs] at ih
        rw [splitT_cons hc hs] at h
        rcases List.mem_cons.1 h with rfl | h
        · have := ih a (by simp); simp; omega
        · have := ih x (List.mem_cons_of_mem _ h); simp; omega

theorem part_size {ts : List ByteArray} {sep : UInt8} {s t : ByteArray} (h : ts.map toL = splitT sep (toL s)) (ht : t ∈ ts) {n : Nat} (hn : s.size ≤ n) {m : Nat} (hm : n ≤ m := by omega) : t.size ≤ m := by
  have h1 : toL t ∈ splitT sep (toL s) := by rw [← h]; exact List.mem_map_of_mem ht
  have h2 := split_sizes sep _ _ h1
  rw [toL_len, toL_len] at h2
  omega

theorem getD_part {ts : List ByteArray} {j : Nat} (h : j < ts.length) : (ts.map toL).getD j [] = toL ts[j] := by
  rw [List.getD_eq_getElem?_getD, List.getElem?_map, List.getElem?_eq_getElem h]
  rfl

/-- Texts that are one another's bytes. -/
theorem toL_inj {a b : ByteArray} (h : toL a = toL b) : a = b := by
  cases a; cases b
  unfold toL at h
  simp only at h
  rw [Array.toList_inj.1 h]

theorem l13Read (s : ByteArray) (w : World) (hl : s.size ≤ 100000) : Calls Tryd.prog 23 #[.string s] w (LrP s w) := by
  have hsz := toL_len s
  by_cases h0 : s.size = 0
  · have he : s = ⟨#[]⟩ := by
      cases s with
      | mk d => simp at h0; rw [h0]; rfl
    subst he
    have HNO9 : Hid (∀ u : Stm, stmtOk u.k u.x u.y = true → stmtT u ≠ toL ⟨#[]⟩) := fun u _ e => by
      unfold stmtT at e
      cases e
    clear hsz h0
    go_enter Tryd.func23, Tryd.ntmps23
    go_wp2
    go_loopw [4] (fun q wr => ∃ (k : Nat), q = .int .i64 k ∧ 1 ≤ k ∧ k ≤ 10 ∧ wr.heap[w.heap.size]? = some (.cells #[.int .i64 0, .int .i64 0, .int .i64 0] 42 (0, 0)) ∧ Hid (Below w.heap.size w wr)) (fun q _ => 10 - (intOf q).toNat)
    case atStart => exact ⟨1, rfl, by omega, by omega, heap_alloc_new w _, by show Below _ _ _; go_grown⟩
    case round =>
      obtain ⟨k, rfl, hk1, hk10, R0, HB⟩ := hrel
      have HNO : Hid (¬ k ≤ 9 → ∀ u : Stm, stmtOk u.k u.x u.y = true → stmtT u ≠ toL ⟨#[]⟩) := fun _ => HNO9.out
      by_cases hlt : k ≤ 9
      · have hlt9 : (k : Int) ≤ 9 := by omega
        have HR2 : Hid (wr.drew.heap[w.heap.size]? = some (.cells #[.int .i64 0, .int .i64 0, .int .i64 0] 42 (0, 0))) := R0
        have HB2 : Hid (Below w.heap.size w wr.drew) := HB.out.drew
        have hkw : IntKind.i64.wrap ((k : Int) + 1) = (k : Int) + 1 := IntWalk.i64_in _ (by omega)
        clear HNO HNO9 R0 HB
        go_wp2
        go_region
        go_wp2
        go_roundw
        case rel => exact ⟨k + 1, by go_num, by omega, by omega, HR2.out, HB2.out⟩
        case measure => simp [intOf]; omega
      · have hlt9 : (9 : Int) < (k : Int) := by omega
        obtain ⟨⟨q0, q1, q2⟩, fr⟩ := threeC R0
        have f0 := fr 0
        have f1 := fr 1
        have f2 := fr 2
        have R1 := threeS (.int .i64 0) (.int .i64 0) (.int .i64 0) R0
        have HBF : Hid (Below w.heap.size w (((wr.setCell ⟨w.heap.size, 0, none⟩ (.int .i64 0)).setCell ⟨w.heap.size, 1, none⟩ (.int .i64 0)).setCell ⟨w.heap.size, 2, none⟩ (.int .i64 0))) := below_three HB.out (Nat.le_refl _) _ _ _
        obtain ⟨⟨r0, r1, r2⟩, -⟩ := threeC R1
        clear R1 fr
        go_wp2
        generalize (((wr.setCell ⟨w.heap.size, 0, none⟩ (.int .i64 0)).setCell ⟨w.heap.size, 1, none⟩ (.int .i64 0)).setCell ⟨w.heap.size, 2, none⟩ (.int .i64 0)) = wf at *
        refine bodyPost_ret (v := .tuple #[.agg #[.int .i64 0, .int .i64 0, .int .i64 0], .bool false]) (by simp [results, Tryd.results23, go_sem, r0, r1, r2]) rfl ?_
        exact ⟨⟨0, 0, 0⟩, false, rfl, HBF.out, ⟨fun h => absurd h (by decide), fun _ => HNO.out hlt⟩⟩
  have p0 : 0 < s.size := by omega
  have p0i : (0 : Int) < (s.size : Int) := by omega
  have hem : s.toList.isEmpty = false := by
    cases hq : s.toList with
    | nil =>
      have h9 := congrArg List.length hq
      rw [ByteArray.toList_eq] at h9
      exact absurd (hsz.symm.trans h9) h0
    | cons _ _ => rfl
  have HH : Hid (toL s = s[0] :: toL (s.extract 1 s.size)) := by
    show toL s = _
    rw [toL_extract]
    have e : (toL s).take s.size = toL s := List.take_of_length_le (by rw [hsz]; exact Nat.le_refl _)
    rw [e]
    have := List.drop_eq_getElem_cons (l := toL s) (i := 0) (by rw [hsz]; exact p0)
    rw [List.drop_zero] at this
    exact this
  have hq0 := UInt8.toNat_lt s[0]
  have hsl := slice_from1 s p0
  have hxl : (s.extract 1 s.size).size ≤ 100000 := by simp; omega
  have HNN : Hid (∀ j : Nat, (∀ i : Nat, 1 ≤ i → i < j → s[0] ≠ letter i) → ¬ j ≤ 9 → ∀ u : Stm, stmtOk u.k u.x u.y = true → stmtT u ≠ toL s) := fun j hj h9 u hu e => by
    obtain ⟨a1, a9, _⟩ := stmtOk_nums hu
    rw [HH.out] at e
    unfold stmtT at e
    injection e with e1 _
    have ek : ((u.k.toNat : Nat) : Int) = u.k := by omega
    refine hj u.k.toNat (by omega) (by omega) ?_
    rw [ek]; exact e1.symm
  clear h0 hsz
  go_enter Tryd.func23, Tryd.ntmps23
  go_wp2
  go_loopw [4] (fun q wr => ∃ (k : Nat), q = .int .i64 k ∧ 1 ≤ k ∧ k ≤ 10 ∧ Hid (∀ i : Nat, 1 ≤ i → i < k → s[0] ≠ letter i) ∧ wr.heap[w.heap.size]? = some (.cells #[.int .i64 0, .int .i64 0, .int .i64 0] 42 (0, 0)) ∧ Hid (Below w.heap.size w wr)) (fun q _ => 10 - (intOf q).toNat)
  case atStart => exact ⟨1, rfl, by omega, by omega, fun i h1 h2 => by omega, heap_alloc_new w _, by show Below _ _ _; go_grown⟩
  case round =>
    obtain ⟨k, rfl, hk1, hk10, HLE, R0, HB⟩ := hrel
    have HNO : Hid (¬ k ≤ 9 → ∀ u : Stm, stmtOk u.k u.x u.y = true → stmtT u ≠ toL s) := HNN.out k HLE.out
    clear HNN
    by_cases hlt : k ≤ 9
    · have hlt9 : (k : Int) ≤ 9 := by omega
      have hk1i : (1 : Int) ≤ (k : Int) := by omega
      have hks : IntKind.i64.wrap ((k : Int) - 1) = (k : Int) - 1 := IntWalk.i64_in _ (by omega)
      have hkn : ((k : Int) - 1).toNat = k - 1 := by omega
      have hkn0 : (0 : Int) ≤ (k : Int) - 1 := by omega
      have hkn9 : (k : Int) - 1 < 9 := by omega
      have hlet := lettersAt k hk1 hlt
      by_cases hc : s[0] = letter k
      · have hcb : (((s[0].toNat : Nat) : Int) == ((letter (k : Int)).toNat : Int)) = true := by rw [hc]; simp
        have HR2 : Hid (wr.drew.heap[w.heap.size]? = some (.cells #[.int .i64 0, .int .i64 0, .int .i64 0] 42 (0, 0))) := R0
        have HB2 : Hid (Below w.heap.size w wr.drew) := HB.out.drew
        have HH2 : Hid (toL s = letter k :: toL (s.extract 1 s.size)) := by have := HH.out; rw [hc] at this; exact this
        clear HNO R0 HB HLE hc HH
        go_wp2
        go_region
        generalize wr.drew = w0 at *
        go_wp2_with fail
        go_at_call 22
        refine (l1Split (s.extract 1 s.size) 44 _ (by omega)).mono ?_
        rintro e w1 ⟨v, ts, rfl, hown, b1, hts⟩
        have ht0 : 1 ≤ ts.length := by
          have h9 := congrArg List.length hts
          rw [List.length_map] at h9
          cases hq : splitT 44 (toL (s.extract 1 s.size)) with
          | nil => exact absurd hq (splitT_ne _ _)
          | cons a l => rw [hq] at h9; simp at h9; omega
        obtain ⟨g, cap, rfl⟩ := own_formR hown (by omega)
        have HTS : Hid _ := hts
        have HOW : Hid (w1.ownsRow w0.heap.size 9 1 (.slice (some ⟨g, 0, none⟩) ts.length cap) ts.length (ts.map .string)) := hown
        have HZ : Hid (w.heap.size < w0.heap.size) := (Array.getElem?_eq_some_iff.1 HR2.out).1
        have R1 : Hid (w1.heap[w.heap.size]? = some (.cells #[.int .i64 0, .int .i64 0, .int .i64 0] 42 (0, 0))) := (b1.block _ HZ.out).trans HR2.out
        have B1 : Hid (Below w.heap.size w w1) := HB2.out.trans (b1.mono HB2.out.size)
        have q0 : w1.cell? ⟨g, 0, none⟩ = some (.string ts[0]) := (hown.cellAt 0 (by omega)).trans (by simp [ht0])
        have hl0 : ts[0].size ≤ 1000000 := part_size HTS.out (List.getElem_mem _) hxl
        clear HR2 HB2 b1 hts hown
        have ht0i : (0 : Int) < (ts.length : Int) := by omega
        go_wp2_with fail
        go_at_call 37
        refine (l1Read0 ts[0] _ hl0).mono ?_
        rintro e w2 ⟨xn, xb, rfl, rfl, hx1, hx2⟩
        by_cases h2 : 1 < ts.length
        · have h2i : (1 : Int) < (ts.length : Int) := by omega
          have q1 : w2.cell? ⟨g, 1, none⟩ = some (.string ts[1]) := (HOW.out.cellAt 1 (by omega)).trans (by simp [h2])
          have hl1 : ts[1].size ≤ 1000000 := part_size HTS.out (List.getElem_mem _) hxl
          go_wp2_with fail
          go_at_call 37
          refine (l1Read0 ts[1] _ hl1).mono ?_
          rintro e w3 ⟨yn, yb, rfl, rfl, hy1, hy2⟩
          have HRA : Hid (∀ u : Stm, stmtOk u.k u.x u.y = true → stmtT u = toL s → u = if (k : Int) = 7 ∨ (k : Int) = 8 then ⟨k, 0, xn⟩ else ⟨k, xn, yn⟩) := fun u hu e =>
            read_back hu (by omega) (by omega) (e.trans HH2.out) HTS.out (fun m hm h => hx1 m hm (by rw [getD_part (by omega)] at h; exact h)) (fun h => hx2 (by rw [getD_part (by omega)] at h; exact h)) (fun _ m hm h => hy1 m hm (by rw [getD_part (by omega)] at h; exact h)) (fun h => by rw [List.length_map] at h; omega)
          clear hx1 hx2 hy1 hy2 HTS HOW HH2
          by_cases h7e : k = 7
          · have HRB : Hid (∀ u : Stm, stmtOk u.k u.x u.y = true → stmtT u = toL s → u = ⟨k, 0, xn⟩) := fun u hu e => by
              have := HRA.out u hu e
              rwa [if_pos (by omega)] at this
            have h7 : ((k : Int) == 7) = true := by rw [beq_iff_eq]; omega
            clear h7e
            obtain ⟨wx, hwx⟩ : ∃ wx, w3.alloc (.cells #[.int .i64 k, .int .i64 0, .int .i64 xn] 42) = wx := ⟨_, rfl⟩
            have XR : wx.heap[w3.heap.size]? = some (.cells #[.int .i64 k, .int .i64 0, .int .i64 xn] 42 (0, 0)) := by rw [← hwx]; exact heap_alloc_new _ _
            have RX : Hid (wx.heap[w.heap.size]? = some (.cells #[.int .i64 0, .int .i64 0, .int .i64 0] 42 (0, 0))) := by
              show wx.heap[w.heap.size]? = _
              rw [← hwx, old_block (Array.getElem?_eq_some_iff.1 R1.out).1]
              exact R1.out
            have BX : Hid (Below w.heap.size w wx) := by rw [← hwx]; exact B1.out.alloc B1.out.size _
            have hXn : w.heap.size < w3.heap.size := (Array.getElem?_eq_some_iff.1 R1.out).1
            have HWX : Hid _ := hwx
            clear HRA R1 B1 hwx
            go_wp2_with fail
            rw [HWX.out]
            obtain ⟨Xb, hXb⟩ : ∃ Xb, w3.heap.size = Xb := ⟨_, rfl⟩
            simp only [hXb] at *
            clear HWX
            obtain ⟨⟨x0, x1, x2⟩, -⟩ := threeC XR
            have hXw : Xb ≠ w.heap.size := by omega
            clear XR
            cases hok : stmtOk (k : Int) 0 xn
            · have HF : Hid (∀ u : Stm, stmtOk u.k u.x u.y = true → stmtT u ≠ toL s) := fun u hu e => by
                have h9 := HRB.out u hu e
                subst h9
                exact absurd (hok.symm.trans hu) (by decide)
              clear HRB
              refine wp_region_held_drew (S := fun w' => w'.cell? ⟨Xb, 0, none⟩ = some (.int .i64 k) ∧ w'.cell? ⟨Xb, 1, none⟩ = some (.int .i64 0) ∧ w'.cell? ⟨Xb, 2, none⟩ = some (.int .i64 xn)) (by kernel_rfl) ⟨x0, x1, x2⟩ (fun hHeld => ?_)
              refine wpAnyH_take (i := 0) (oi := ?oiasn0) (v := .agg #[.int .i64 k, .int .i64 0, .int .i64 xn]) ?hiasn0 (by kernel_rfl) (by kernel_rfl) (by kernel_rfl) ?hqasn0 ?hyasn0 hHeld ?hrasn0
              case hiasn0 =>
                simp only [List.getElem?_toArray, List.getElem?_cons_succ, List.getElem?_cons_zero]
                rfl
              case hqasn0 => exact fun _ _ _ h => h
              case hyasn0 => exact Or.inl ⟨by kernel_rfl, fun w hSw => by obtain ⟨s1, s2, s3⟩ := hSw; go_simp⟩
              try simp only [Act.put, List.setIfInBounds_toArray, List.set_cons_zero, List.set_cons_succ]
              refine wpAnyH_take (i := 1) (oi := ?oiasn1) (v := .agg #[.int .i64 k, .int .i64 0, .int .i64 xn]) ?hiasn1 (by kernel_rfl) (by kernel_rfl) (by kernel_rfl) ?hqasn1 ?hyasn1 hHeld ?hrasn1
              case hiasn1 =>
                simp only [List.getElem?_toArray, List.getElem?_cons_succ, List.getElem?_cons_zero]
                rfl
              case hqasn1 => exact fun _ _ _ h => h
              case hyasn1 => exact Or.inl ⟨by kernel_rfl, fun w hSw => by obtain ⟨s1, s2, s3⟩ := hSw; go_simp⟩
              try simp only [Act.put, List.setIfInBounds_toArray, List.set_cons_zero, List.set_cons_succ]
              refine wpAnyH_ready (rs := [2]) (by kernel_rfl) (by simp) ?_
              refine (AllReadyH.cons (o := ?ooasn2) ?hoasn2 (fun K hK => ?hkasn2) AllReadyH.nil)
              case hoasn2 =>
                simp only [List.getElem?_toArray, List.getElem?_cons_succ, List.getElem?_cons_zero]
                rfl
              case hkasn2 =>
                go_simp
                go_at_call 38
                refine (specStmtOk (k : Int) 0 xn _).mono ?_
                rintro e y1 ⟨rfl, bq⟩
                rw [hok]
                have Y1 : Hid (Below wx.heap.size wx y1) := Below.trans (Below.drew (Below.refl _ _)) bq
                clear bq
                try go_wp2_with fail
                refine hK.out _ _ ⟨cell_step3 x0 Y1.out, cell_step3 x1 Y1.out, cell_step3 x2 Y1.out⟩ (fun hHeld => ?_)
                clear hK K
                try simp only [Act.put, List.setIfInBounds_toArray, List.set_cons_zero, List.set_cons_succ]
                refine wpAnyH_take (i := 3) (oi := ?oiasn3) (v := .bool false) ?hiasn3 (by kernel_rfl) (by kernel_rfl) (by kernel_rfl) ?hqasn3 ?hyasn3 hHeld ?hrasn3
                case hiasn3 =>
                  simp only [List.getElem?_toArray, List.getElem?_cons_succ, List.getElem?_cons_zero]
                  rfl
                case hqasn3 => exact fun _ _ _ h => h
                case hyasn3 => exact Or.inl ⟨by kernel_rfl, fun w hSw => by go_simp⟩
                try simp only [Act.put, List.setIfInBounds_toArray, List.set_cons_zero, List.set_cons_succ]
                refine wpAnyH_take (i := 4) (oi := ?oiasn4) (v := undef) ?hiasn4 (by kernel_rfl) (by kernel_rfl) (by kernel_rfl) ?hqasn4 ?hyasn4 hHeld ?hrasn4
                case hiasn4 =>
                  simp only [List.getElem?_toArray, List.getElem?_cons_succ, List.getElem?_cons_zero]
                  rfl
                case hqasn4 => exact fun _ _ _ h => h
                case hyasn4 => exact Or.inr ⟨by kernel_rfl, rfl⟩
                try simp only [Act.put, List.setIfInBounds_toArray, List.set_cons_zero, List.set_cons_succ]
                refine wpAnyH_take (i := 5) (oi := ?oiasn5) (v := undef) ?hiasn5 (by kernel_rfl) (by kernel_rfl) (by kernel_rfl) ?hqasn5 ?hyasn5 hHeld ?hrasn5
                case hiasn5 =>
                  simp only [List.getElem?_toArray, List.getElem?_cons_succ, List.getElem?_cons_zero]
                  rfl
                case hqasn5 => exact fun _ _ _ h => h
                case hyasn5 => exact Or.inr ⟨by kernel_rfl, rfl⟩
                try simp only [Act.put, List.setIfInBounds_toArray, List.set_cons_zero, List.set_cons_succ]
                refine wpAnyH_take (i := 6) (oi := ?oiasn6) (v := undef) ?hiasn6 (by kernel_rfl) (by kernel_rfl) (by kernel_rfl) ?hqasn6 ?hyasn6 hHeld ?hrasn6
                case hiasn6 =>
                  simp only [List.getElem?_toArray, List.getElem?_cons_succ, List.getElem?_cons_zero]
                  rfl
                case hqasn6 => exact fun _ _ _ h => h
                case hyasn6 => exact Or.inr ⟨by kernel_rfl, rfl⟩
                try simp only [Act.put, List.setIfInBounds_toArray, List.set_cons_zero, List.set_cons_succ]
                refine wpAnyH_take (i := 7) (oi := ?oiasn7) (v := undef) ?hiasn7 (by kernel_rfl) (by kernel_rfl) (by kernel_rfl) ?hqasn7 ?hyasn7 hHeld ?hrasn7
                case hiasn7 =>
                  simp only [List.getElem?_toArray, List.getElem?_cons_succ, List.getElem?_cons_zero]
                  rfl
                case hqasn7 => exact fun _ _ _ h => h
                case hyasn7 => exact Or.inr ⟨by kernel_rfl, rfl⟩
                try simp only [Act.put, List.setIfInBounds_toArray, List.set_cons_zero, List.set_cons_succ]
                refine wpAnyH_take (i := 8) (oi := ?oiasn8) (v := .bool false) ?hiasn8 (by kernel_rfl) (by kernel_rfl) (by kernel_rfl) ?hqasn8 ?hyasn8 hHeld ?hrasn8
                case hiasn8 =>
                  simp only [List.getElem?_toArray, List.getElem?_cons_succ, List.getElem?_cons_zero]
                  rfl
                case hqasn8 => exact fun _ _ _ h => h
                case hyasn8 => exact Or.inl ⟨by kernel_rfl, fun w hSw => by go_simp⟩
                try simp only [Act.put, List.setIfInBounds_toArray, List.set_cons_zero, List.set_cons_succ]
                refine wpAnyH_ready (rs := [9]) (by kernel_rfl) (by simp) ?_
                refine (AllReadyH.cons (o := ?ooasn9) ?hoasn9 (fun K hK => ?hkasn9) AllReadyH.nil)
                case hoasn9 =>
                  simp only [List.getElem?_toArray, List.getElem?_cons_succ, List.getElem?_cons_zero]
                  rfl
                case hkasn9 =>
                  have RR : y1.heap[w.heap.size]? = some (.cells #[.int .i64 0, .int .i64 0, .int .i64 0] 42 (0, 0)) := (Y1.out.block _ (by have := (Array.getElem?_eq_some_iff.1 RX.out).1; exact this)).trans RX.out
                  obtain ⟨⟨q0, q1, q2⟩, fr⟩ := threeC RR
                  have f0 := fr 0
                  have f1 := fr 1
                  have f2 := fr 2
                  have RS := threeS (.int .i64 k) (.int .i64 0) (.int .i64 xn) RR
                  obtain ⟨⟨r0, r1, r2⟩, -⟩ := threeC RS
                  have HBF : Hid (Below w.heap.size w (((y1.setCell ⟨w.heap.size, 0, none⟩ (.int .i64 k)).setCell ⟨w.heap.size, 1, none⟩ (.int .i64 0)).setCell ⟨w.heap.size, 2, none⟩ (.int .i64 xn))) := below_three (BX.out.trans (Y1.out.mono BX.out.size)) (Nat.le_refl _) _ _ _
                  clear RS RR fr
                  go_simp
                  try go_wp2_with fail
                  refine hK.out _ _ ⟨set3_cell hXw (cell_step3 x0 Y1.out) _ _ _, set3_cell hXw (cell_step3 x1 Y1.out) _ _ _, set3_cell hXw (cell_step3 x2 Y1.out) _ _ _⟩ (fun hHeld => ?_)
                  clear hK K
                  try simp only [Act.put, List.setIfInBounds_toArray, List.set_cons_zero, List.set_cons_succ]
                  refine wpAnyH_take (i := 10) (oi := ?oiasn10) (v := .bool false) ?hiasn10 (by kernel_rfl) (by kernel_rfl) (by kernel_rfl) ?hqasn10 ?hyasn10 hHeld ?hrasn10
                  case hiasn10 =>
                    simp only [List.getElem?_toArray, List.getElem?_cons_succ, List.getElem?_cons_zero]
                    rfl
                  case hqasn10 => exact fun _ _ _ h => h
                  case hyasn10 => exact Or.inl ⟨by kernel_rfl, fun w hSw => by go_simp⟩
                  try simp only [Act.put, List.setIfInBounds_toArray, List.set_cons_zero, List.set_cons_succ]
                  refine wpAnyH_done (by kernel_rfl) ?_ _
                  generalize (((y1.setCell ⟨w.heap.size, 0, none⟩ (.int .i64 k)).setCell ⟨w.heap.size, 1, none⟩ (.int .i64 0)).setCell ⟨w.heap.size, 2, none⟩ (.int .i64 xn)) = wf at *
                  go_wp2
                  refine bodyPost_ret (v := .tuple #[.agg #[.int .i64 k, .int .i64 0, .int .i64 xn], .bool false]) (by simp [results, Tryd.results23, go_sem, r0, r1, r2]) rfl ?_
                  exact ⟨⟨k, 0, xn⟩, false, rfl, HBF.out, fun h => absurd h (by decide), fun _ => HF.out⟩
            · obtain ⟨bB, hbB⟩ : ∃ bB, (stmtT ⟨k, 0, xn⟩ == s.toList) = bB := ⟨_, rfl⟩
              have HT : Hid (bB = true → stmtOk (k : Int) 0 xn = true ∧ stmtT ⟨k, 0, xn⟩ = toL s) := fun h => by
                subst h
                refine ⟨hok, ?_⟩
                have := eq_of_beq hbB
                rw [ByteArray.toList_eq] at this
                exact this
              have HF : Hid (bB = false → ∀ u : Stm, stmtOk u.k u.x u.y = true → stmtT u ≠ toL s) := fun h u hu e => by
                subst h
                have h9 := HRB.out u hu e
                subst h9
                refine absurd ?_ (beq_eq_false_iff_ne.1 hbB)
                rw [ByteArray.toList_eq]
                exact e
              clear HRB
              refine wp_region_held_drew (S := fun w' => w'.cell? ⟨Xb, 0, none⟩ = some (.int .i64 k) ∧ w'.cell? ⟨Xb, 1, none⟩ = some (.int .i64 0) ∧ w'.cell? ⟨Xb, 2, none⟩ = some (.int .i64 xn)) (by kernel_rfl) ⟨x0, x1, x2⟩ (fun hHeld => ?_)
              refine wpAnyH_take (i := 0) (oi := ?oiasy0) (v := .agg #[.int .i64 k, .int .i64 0, .int .i64 xn]) ?hiasy0 (by kernel_rfl) (by kernel_rfl) (by kernel_rfl) ?hqasy0 ?hyasy0 hHeld ?hrasy0
              case hiasy0 =>
                simp only [List.getElem?_toArray, List.getElem?_cons_succ, List.getElem?_cons_zero]
                rfl
              case hqasy0 => exact fun _ _ _ h => h
              case hyasy0 => exact Or.inl ⟨by kernel_rfl, fun w hSw => by obtain ⟨s1, s2, s3⟩ := hSw; go_simp⟩
              try simp only [Act.put, List.setIfInBounds_toArray, List.set_cons_zero, List.set_cons_succ]
              refine wpAnyH_take (i := 1) (oi := ?oiasy1) (v := .agg #[.int .i64 k, .int .i64 0, .int .i64 xn]) ?hiasy1 (by kernel_rfl) (by kernel_rfl) (by kernel_rfl) ?hqasy1 ?hyasy1 hHeld ?hrasy1
              case hiasy1 =>
                simp only [List.getElem?_toArray, List.getElem?_cons_succ, List.getElem?_cons_zero]
                rfl
              case hqasy1 => exact fun _ _ _ h => h
              case hyasy1 => exact Or.inl ⟨by kernel_rfl, fun w hSw => by obtain ⟨s1, s2, s3⟩ := hSw; go_simp⟩
              try simp only [Act.put, List.setIfInBounds_toArray, List.set_cons_zero, List.set_cons_succ]
              refine wpAnyH_ready (rs := [2]) (by kernel_rfl) (by simp) ?_
              refine (AllReadyH.cons (o := ?ooasy2) ?hoasy2 (fun K hK => ?hkasy2) AllReadyH.nil)
              case hoasy2 =>
                simp only [List.getElem?_toArray, List.getElem?_cons_succ, List.getElem?_cons_zero]
                rfl
              case hkasy2 =>
                go_simp
                go_at_call 38
                refine (specStmtOk (k : Int) 0 xn _).mono ?_
                rintro e y1 ⟨rfl, bq⟩
                rw [hok]
                have Y1 : Hid (Below wx.heap.size wx y1) := Below.trans (Below.drew (Below.refl _ _)) bq
                clear bq
                try go_wp2_with fail
                refine hK.out _ _ ⟨cell_step3 x0 Y1.out, cell_step3 x1 Y1.out, cell_step3 x2 Y1.out⟩ (fun hHeld => ?_)
                clear hK K
                try simp only [Act.put, List.setIfInBounds_toArray, List.set_cons_zero, List.set_cons_succ]
                refine wpAnyH_take (i := 3) (oi := ?oiasy3) (v := .bool true) ?hiasy3 (by kernel_rfl) (by kernel_rfl) (by kernel_rfl) ?hqasy3 ?hyasy3 hHeld ?hrasy3
                case hiasy3 =>
                  simp only [List.getElem?_toArray, List.getElem?_cons_succ, List.getElem?_cons_zero]
                  rfl
                case hqasy3 => exact fun _ _ _ h => h
                case hyasy3 => exact Or.inl ⟨by kernel_rfl, fun w hSw => by go_simp⟩
                try simp only [Act.put, List.setIfInBounds_toArray, List.set_cons_zero, List.set_cons_succ]
                refine wpAnyH_take (i := 4) (oi := ?oiasy4) (v := .agg #[.int .i64 k, .int .i64 0, .int .i64 xn]) ?hiasy4 (by kernel_rfl) (by kernel_rfl) (by kernel_rfl) ?hqasy4 ?hyasy4 hHeld ?hrasy4
                case hiasy4 =>
                  simp only [List.getElem?_toArray, List.getElem?_cons_succ, List.getElem?_cons_zero]
                  rfl
                case hqasy4 => exact fun _ _ _ h => h
                case hyasy4 => exact Or.inl ⟨by kernel_rfl, fun w hSw => by obtain ⟨s1, s2, s3⟩ := hSw; go_simp⟩
                try simp only [Act.put, List.setIfInBounds_toArray, List.set_cons_zero, List.set_cons_succ]
                refine wpAnyH_take (i := 6) (oi := ?oiasy6) (v := .string s) ?hiasy6 (by kernel_rfl) (by kernel_rfl) (by kernel_rfl) ?hqasy6 ?hyasy6 hHeld ?hrasy6
                case hiasy6 =>
                  simp only [List.getElem?_toArray, List.getElem?_cons_succ, List.getElem?_cons_zero]
                  rfl
                case hqasy6 => exact fun _ _ _ h => h
                case hyasy6 => exact Or.inl ⟨by kernel_rfl, fun w hSw => by go_simp⟩
                try simp only [Act.put, List.setIfInBounds_toArray, List.set_cons_zero, List.set_cons_succ]
                refine wpAnyH_ready (rs := [5]) (by kernel_rfl) (by simp) ?_
                refine (AllReadyH.cons (o := ?ooasy5) ?hoasy5 (fun K hK => ?hkasy5) AllReadyH.nil)
                case hoasy5 =>
                  simp only [List.getElem?_toArray, List.getElem?_cons_succ, List.getElem?_cons_zero]
                  rfl
                case hkasy5 =>
                  go_simp
                  go_at_call 25
                  refine (l13Stmt ⟨k, 0, xn⟩ _ hok).mono ?_
                  rintro e y2 ⟨rfl, bq⟩
                  have Y2 : Hid (Below wx.heap.size wx y2) := Y1.out.trans (bq.mono Y1.out.size)
                  clear bq
                  try go_wp2_with fail
                  refine hK.out _ _ ⟨cell_step3 x0 Y2.out, cell_step3 x1 Y2.out, cell_step3 x2 Y2.out⟩ (fun hHeld => ?_)
                  clear hK K
                  try simp only [Act.put, List.setIfInBounds_toArray, List.set_cons_zero, List.set_cons_succ]
                  refine wpAnyH_take (i := 7) (oi := ?oiasy7) (v := .bool bB) ?hiasy7 (by kernel_rfl) (by kernel_rfl) (by kernel_rfl) ?hqasy7 ?hyasy7 hHeld ?hrasy7
                  case hiasy7 =>
                    simp only [List.getElem?_toArray, List.getElem?_cons_succ, List.getElem?_cons_zero]
                    rfl
                  case hqasy7 => exact fun _ _ _ h => h
                  case hyasy7 => exact Or.inl ⟨by kernel_rfl, fun w hSw => by go_simp; first | done | exact hbB⟩
                  try simp only [Act.put, List.setIfInBounds_toArray, List.set_cons_zero, List.set_cons_succ]
                  refine wpAnyH_take (i := 8) (oi := ?oiasy8) (v := .bool bB) ?hiasy8 (by kernel_rfl) (by kernel_rfl) (by kernel_rfl) ?hqasy8 ?hyasy8 hHeld ?hrasy8
                  case hiasy8 =>
                    simp only [List.getElem?_toArray, List.getElem?_cons_succ, List.getElem?_cons_zero]
                    rfl
                  case hqasy8 => exact fun _ _ _ h => h
                  case hyasy8 => exact Or.inl ⟨by kernel_rfl, fun w hSw => by go_simp⟩
                  try simp only [Act.put, List.setIfInBounds_toArray, List.set_cons_zero, List.set_cons_succ]
                  refine wpAnyH_ready (rs := [9]) (by kernel_rfl) (by simp) ?_
                  refine (AllReadyH.cons (o := ?ooasy9) ?hoasy9 (fun K hK => ?hkasy9) AllReadyH.nil)
                  case hoasy9 =>
                    simp only [List.getElem?_toArray, List.getElem?_cons_succ, List.getElem?_cons_zero]
                    rfl
                  case hkasy9 =>
                    have RR : y2.heap[w.heap.size]? = some (.cells #[.int .i64 0, .int .i64 0, .int .i64 0] 42 (0, 0)) := (Y2.out.block _ (by have := (Array.getElem?_eq_some_iff.1 RX.out).1; exact this)).trans RX.out
                    obtain ⟨⟨q0, q1, q2⟩, fr⟩ := threeC RR
                    have f0 := fr 0
                    have f1 := fr 1
                    have f2 := fr 2
                    have RS := threeS (.int .i64 k) (.int .i64 0) (.int .i64 xn) RR
                    obtain ⟨⟨r0, r1, r2⟩, -⟩ := threeC RS
                    have HBF : Hid (Below w.heap.size w (((y2.setCell ⟨w.heap.size, 0, none⟩ (.int .i64 k)).setCell ⟨w.heap.size, 1, none⟩ (.int .i64 0)).setCell ⟨w.heap.size, 2, none⟩ (.int .i64 xn))) := below_three (BX.out.trans (Y2.out.mono BX.out.size)) (Nat.le_refl _) _ _ _
                    clear RS RR fr
                    go_simp
                    try go_wp2_with fail
                    refine hK.out _ _ ⟨set3_cell hXw (cell_step3 x0 Y2.out) _ _ _, set3_cell hXw (cell_step3 x1 Y2.out) _ _ _, set3_cell hXw (cell_step3 x2 Y2.out) _ _ _⟩ (fun hHeld => ?_)
                    clear hK K
                    try simp only [Act.put, List.setIfInBounds_toArray, List.set_cons_zero, List.set_cons_succ]
                    refine wpAnyH_take (i := 10) (oi := ?oiasy10) (v := .bool bB) ?hiasy10 (by kernel_rfl) (by kernel_rfl) (by kernel_rfl) ?hqasy10 ?hyasy10 hHeld ?hrasy10
                    case hiasy10 =>
                      simp only [List.getElem?_toArray, List.getElem?_cons_succ, List.getElem?_cons_zero]
                      rfl
                    case hqasy10 => exact fun _ _ _ h => h
                    case hyasy10 => exact Or.inl ⟨by kernel_rfl, fun w hSw => by go_simp⟩
                    try simp only [Act.put, List.setIfInBounds_toArray, List.set_cons_zero, List.set_cons_succ]
                    refine wpAnyH_done (by kernel_rfl) ?_ _
                    generalize (((y2.setCell ⟨w.heap.size, 0, none⟩ (.int .i64 k)).setCell ⟨w.heap.size, 1, none⟩ (.int .i64 0)).setCell ⟨w.heap.size, 2, none⟩ (.int .i64 xn)) = wf at *
                    go_wp2
                    refine bodyPost_ret (v := .tuple #[.agg #[.int .i64 k, .int .i64 0, .int .i64 xn], .bool bB]) (by simp [results, Tryd.results23, go_sem, r0, r1, r2]) rfl ?_
                    exact ⟨⟨k, 0, xn⟩, bB, rfl, HBF.out, HT.out, HF.out⟩
          by_cases h8e : k = 8
          · have HRB : Hid (∀ u : Stm, stmtOk u.k u.x u.y = true → stmtT u = toL s → u = ⟨k, 0, xn⟩) := fun u hu e => by
              have := HRA.out u hu e
              rwa [if_pos (by omega)] at this
            have h7 : ((k : Int) == 7) = false := by rw [beq_eq_false_iff_ne]; omega
            have h8 : ((k : Int) == 8) = true := by rw [beq_iff_eq]; omega
            clear h8e
            obtain ⟨wx, hwx⟩ : ∃ wx, w3.alloc (.cells #[.int .i64 k, .int .i64 0, .int .i64 xn] 42) = wx := ⟨_, rfl⟩
            have XR : wx.heap[w3.heap.size]? = some (.cells #[.int .i64 k, .int .i64 0, .int .i64 xn] 42 (0, 0)) := by rw [← hwx]; exact heap_alloc_new _ _
            have RX : Hid (wx.heap[w.heap.size]? = some (.cells #[.int .i64 0, .int .i64 0, .int .i64 0] 42 (0, 0))) := by
              show wx.heap[w.heap.size]? = _
              rw [← hwx, old_block (Array.getElem?_eq_some_iff.1 R1.out).1]
              exact R1.out
            have BX : Hid (Below w.heap.size w wx) := by rw [← hwx]; exact B1.out.alloc B1.out.size _
            have hXn : w.heap.size < w3.heap.size := (Array.getElem?_eq_some_iff.1 R1.out).1
            have HWX : Hid _ := hwx
            clear HRA R1 B1 hwx
            go_wp2_with fail
            rw [HWX.out]
            obtain ⟨Xb, hXb⟩ : ∃ Xb, w3.heap.size = Xb := ⟨_, rfl⟩
            simp only [hXb] at *
            clear HWX
            obtain ⟨⟨x0, x1, x2⟩, -⟩ := threeC XR
            have hXw : Xb ≠ w.heap.size := by omega
            clear XR
            cases hok : stmtOk (k : Int) 0 xn
            · have HF : Hid (∀ u : Stm, stmtOk u.k u.x u.y = true → stmtT u ≠ toL s) := fun u hu e => by
                have h9 := HRB.out u hu e
                subst h9
                exact absurd (hok.symm.trans hu) (by decide)
              clear HRB
              refine wp_region_held_drew (S := fun w' => w'.cell? ⟨Xb, 0, none⟩ = some (.int .i64 k) ∧ w'.cell? ⟨Xb, 1, none⟩ = some (.int .i64 0) ∧ w'.cell? ⟨Xb, 2, none⟩ = some (.int .i64 xn)) (by kernel_rfl) ⟨x0, x1, x2⟩ (fun hHeld => ?_)
              refine wpAnyH_take (i := 0) (oi := ?oiaen0) (v := .agg #[.int .i64 k, .int .i64 0, .int .i64 xn]) ?hiaen0 (by kernel_rfl) (by kernel_rfl) (by kernel_rfl) ?hqaen0 ?hyaen0 hHeld ?hraen0
              case hiaen0 =>
                simp only [List.getElem?_toArray, List.getElem?_cons_succ, List.getElem?_cons_zero]
                rfl
              case hqaen0 => exact fun _ _ _ h => h
              case hyaen0 => exact Or.inl ⟨by kernel_rfl, fun w hSw => by obtain ⟨s1, s2, s3⟩ := hSw; go_simp⟩
              try simp only [Act.put, List.setIfInBounds_toArray, List.set_cons_zero, List.set_cons_succ]
              refine wpAnyH_take (i := 1) (oi := ?oiaen1) (v := .agg #[.int .i64 k, .int .i64 0, .int .i64 xn]) ?hiaen1 (by kernel_rfl) (by kernel_rfl) (by kernel_rfl) ?hqaen1 ?hyaen1 hHeld ?hraen1
              case hiaen1 =>
                simp only [List.getElem?_toArray, List.getElem?_cons_succ, List.getElem?_cons_zero]
                rfl
              case hqaen1 => exact fun _ _ _ h => h
              case hyaen1 => exact Or.inl ⟨by kernel_rfl, fun w hSw => by obtain ⟨s1, s2, s3⟩ := hSw; go_simp⟩
              try simp only [Act.put, List.setIfInBounds_toArray, List.set_cons_zero, List.set_cons_succ]
              refine wpAnyH_ready (rs := [2]) (by kernel_rfl) (by simp) ?_
              refine (AllReadyH.cons (o := ?ooaen2) ?hoaen2 (fun K hK => ?hkaen2) AllReadyH.nil)
              case hoaen2 =>
                simp only [List.getElem?_toArray, List.getElem?_cons_succ, List.getElem?_cons_zero]
                rfl
              case hkaen2 =>
                go_simp
                go_at_call 38
                refine (specStmtOk (k : Int) 0 xn _).mono ?_
                rintro e y1 ⟨rfl, bq⟩
                rw [hok]
                have Y1 : Hid (Below wx.heap.size wx y1) := Below.trans (Below.drew (Below.refl _ _)) bq
                clear bq
                try go_wp2_with fail
                refine hK.out _ _ ⟨cell_step3 x0 Y1.out, cell_step3 x1 Y1.out, cell_step3 x2 Y1.out⟩ (fun hHeld => ?_)
                clear hK K
                try simp only [Act.put, List.setIfInBounds_toArray, List.set_cons_zero, List.set_cons_succ]
                refine wpAnyH_take (i := 3) (oi := ?oiaen3) (v := .bool false) ?hiaen3 (by kernel_rfl) (by kernel_rfl) (by kernel_rfl) ?hqaen3 ?hyaen3 hHeld ?hraen3
                case hiaen3 =>
                  simp only [List.getElem?_toArray, List.getElem?_cons_succ, List.getElem?_cons_zero]
                  rfl
                case hqaen3 => exact fun _ _ _ h => h
                case hyaen3 => exact Or.inl ⟨by kernel_rfl, fun w hSw => by go_simp⟩
                try simp only [Act.put, List.setIfInBounds_toArray, List.set_cons_zero, List.set_cons_succ]
                refine wpAnyH_take (i := 4) (oi := ?oiaen4) (v := undef) ?hiaen4 (by kernel_rfl) (by kernel_rfl) (by kernel_rfl) ?hqaen4 ?hyaen4 hHeld ?hraen4
                case hiaen4 =>
                  simp only [List.getElem?_toArray, List.getElem?_cons_succ, List.getElem?_cons_zero]
                  rfl
                case hqaen4 => exact fun _ _ _ h => h
                case hyaen4 => exact Or.inr ⟨by kernel_rfl, rfl⟩
                try simp only [Act.put, List.setIfInBounds_toArray, List.set_cons_zero, List.set_cons_succ]
                refine wpAnyH_take (i := 5) (oi := ?oiaen5) (v := undef) ?hiaen5 (by kernel_rfl) (by kernel_rfl) (by kernel_rfl) ?hqaen5 ?hyaen5 hHeld ?hraen5
                case hiaen5 =>
                  simp only [List.getElem?_toArray, List.getElem?_cons_succ, List.getElem?_cons_zero]
                  rfl
                case hqaen5 => exact fun _ _ _ h => h
                case hyaen5 => exact Or.inr ⟨by kernel_rfl, rfl⟩
                try simp only [Act.put, List.setIfInBounds_toArray, List.set_cons_zero, List.set_cons_succ]
                refine wpAnyH_take (i := 6) (oi := ?oiaen6) (v := undef) ?hiaen6 (by kernel_rfl) (by kernel_rfl) (by kernel_rfl) ?hqaen6 ?hyaen6 hHeld ?hraen6
                case hiaen6 =>
                  simp only [List.getElem?_toArray, List.getElem?_cons_succ, List.getElem?_cons_zero]
                  rfl
                case hqaen6 => exact fun _ _ _ h => h
                case hyaen6 => exact Or.inr ⟨by kernel_rfl, rfl⟩
                try simp only [Act.put, List.setIfInBounds_toArray, List.set_cons_zero, List.set_cons_succ]
                refine wpAnyH_take (i := 7) (oi := ?oiaen7) (v := undef) ?hiaen7 (by kernel_rfl) (by kernel_rfl) (by kernel_rfl) ?hqaen7 ?hyaen7 hHeld ?hraen7
                case hiaen7 =>
                  simp only [List.getElem?_toArray, List.getElem?_cons_succ, List.getElem?_cons_zero]
                  rfl
                case hqaen7 => exact fun _ _ _ h => h
                case hyaen7 => exact Or.inr ⟨by kernel_rfl, rfl⟩
                try simp only [Act.put, List.setIfInBounds_toArray, List.set_cons_zero, List.set_cons_succ]
                refine wpAnyH_take (i := 8) (oi := ?oiaen8) (v := .bool false) ?hiaen8 (by kernel_rfl) (by kernel_rfl) (by kernel_rfl) ?hqaen8 ?hyaen8 hHeld ?hraen8
                case hiaen8 =>
                  simp only [List.getElem?_toArray, List.getElem?_cons_succ, List.getElem?_cons_zero]
                  rfl
                case hqaen8 => exact fun _ _ _ h => h
                case hyaen8 => exact Or.inl ⟨by kernel_rfl, fun w hSw => by go_simp⟩
                try simp only [Act.put, List.setIfInBounds_toArray, List.set_cons_zero, List.set_cons_succ]
                refine wpAnyH_ready (rs := [9]) (by kernel_rfl) (by simp) ?_
                refine (AllReadyH.cons (o := ?ooaen9) ?hoaen9 (fun K hK => ?hkaen9) AllReadyH.nil)
                case hoaen9 =>
                  simp only [List.getElem?_toArray, List.getElem?_cons_succ, List.getElem?_cons_zero]
                  rfl
                case hkaen9 =>
                  have RR : y1.heap[w.heap.size]? = some (.cells #[.int .i64 0, .int .i64 0, .int .i64 0] 42 (0, 0)) := (Y1.out.block _ (by have := (Array.getElem?_eq_some_iff.1 RX.out).1; exact this)).trans RX.out
                  obtain ⟨⟨q0, q1, q2⟩, fr⟩ := threeC RR
                  have f0 := fr 0
                  have f1 := fr 1
                  have f2 := fr 2
                  have RS := threeS (.int .i64 k) (.int .i64 0) (.int .i64 xn) RR
                  obtain ⟨⟨r0, r1, r2⟩, -⟩ := threeC RS
                  have HBF : Hid (Below w.heap.size w (((y1.setCell ⟨w.heap.size, 0, none⟩ (.int .i64 k)).setCell ⟨w.heap.size, 1, none⟩ (.int .i64 0)).setCell ⟨w.heap.size, 2, none⟩ (.int .i64 xn))) := below_three (BX.out.trans (Y1.out.mono BX.out.size)) (Nat.le_refl _) _ _ _
                  clear RS RR fr
                  go_simp
                  try go_wp2_with fail
                  refine hK.out _ _ ⟨set3_cell hXw (cell_step3 x0 Y1.out) _ _ _, set3_cell hXw (cell_step3 x1 Y1.out) _ _ _, set3_cell hXw (cell_step3 x2 Y1.out) _ _ _⟩ (fun hHeld => ?_)
                  clear hK K
                  try simp only [Act.put, List.setIfInBounds_toArray, List.set_cons_zero, List.set_cons_succ]
                  refine wpAnyH_take (i := 10) (oi := ?oiaen10) (v := .bool false) ?hiaen10 (by kernel_rfl) (by kernel_rfl) (by kernel_rfl) ?hqaen10 ?hyaen10 hHeld ?hraen10
                  case hiaen10 =>
                    simp only [List.getElem?_toArray, List.getElem?_cons_succ, List.getElem?_cons_zero]
                    rfl
                  case hqaen10 => exact fun _ _ _ h => h
                  case hyaen10 => exact Or.inl ⟨by kernel_rfl, fun w hSw => by go_simp⟩
                  try simp only [Act.put, List.setIfInBounds_toArray, List.set_cons_zero, List.set_cons_succ]
                  refine wpAnyH_done (by kernel_rfl) ?_ _
                  generalize (((y1.setCell ⟨w.heap.size, 0, none⟩ (.int .i64 k)).setCell ⟨w.heap.size, 1, none⟩ (.int .i64 0)).setCell ⟨w.heap.size, 2, none⟩ (.int .i64 xn)) = wf at *
                  go_wp2
                  refine bodyPost_ret (v := .tuple #[.agg #[.int .i64 k, .int .i64 0, .int .i64 xn], .bool false]) (by simp [results, Tryd.results23, go_sem, r0, r1, r2]) rfl ?_
                  exact ⟨⟨k, 0, xn⟩, false, rfl, HBF.out, fun h => absurd h (by decide), fun _ => HF.out⟩
            · obtain ⟨bB, hbB⟩ : ∃ bB, (stmtT ⟨k, 0, xn⟩ == s.toList) = bB := ⟨_, rfl⟩
              have HT : Hid (bB = true → stmtOk (k : Int) 0 xn = true ∧ stmtT ⟨k, 0, xn⟩ = toL s) := fun h => by
                subst h
                refine ⟨hok, ?_⟩
                have := eq_of_beq hbB
                rw [ByteArray.toList_eq] at this
                exact this
              have HF : Hid (bB = false → ∀ u : Stm, stmtOk u.k u.x u.y = true → stmtT u ≠ toL s) := fun h u hu e => by
                subst h
                have h9 := HRB.out u hu e
                subst h9
                refine absurd ?_ (beq_eq_false_iff_ne.1 hbB)
                rw [ByteArray.toList_eq]
                exact e
              clear HRB
              refine wp_region_held_drew (S := fun w' => w'.cell? ⟨Xb, 0, none⟩ = some (.int .i64 k) ∧ w'.cell? ⟨Xb, 1, none⟩ = some (.int .i64 0) ∧ w'.cell? ⟨Xb, 2, none⟩ = some (.int .i64 xn)) (by kernel_rfl) ⟨x0, x1, x2⟩ (fun hHeld => ?_)
              refine wpAnyH_take (i := 0) (oi := ?oiaey0) (v := .agg #[.int .i64 k, .int .i64 0, .int .i64 xn]) ?hiaey0 (by kernel_rfl) (by kernel_rfl) (by kernel_rfl) ?hqaey0 ?hyaey0 hHeld ?hraey0
              case hiaey0 =>
                simp only [List.getElem?_toArray, List.getElem?_cons_succ, List.getElem?_cons_zero]
                rfl
              case hqaey0 => exact fun _ _ _ h => h
              case hyaey0 => exact Or.inl ⟨by kernel_rfl, fun w hSw => by obtain ⟨s1, s2, s3⟩ := hSw; go_simp⟩
              try simp only [Act.put, List.setIfInBounds_toArray, List.set_cons_zero, List.set_cons_succ]
              refine wpAnyH_take (i := 1) (oi := ?oiaey1) (v := .agg #[.int .i64 k, .int .i64 0, .int .i64 xn]) ?hiaey1 (by kernel_rfl) (by kernel_rfl) (by kernel_rfl) ?hqaey1 ?hyaey1 hHeld ?hraey1
              case hiaey1 =>
                simp only [List.getElem?_toArray, List.getElem?_cons_succ, List.getElem?_cons_zero]
                rfl
              case hqaey1 => exact fun _ _ _ h => h
              case hyaey1 => exact Or.inl ⟨by kernel_rfl, fun w hSw => by obtain ⟨s1, s2, s3⟩ := hSw; go_simp⟩
              try simp only [Act.put, List.setIfInBounds_toArray, List.set_cons_zero, List.set_cons_succ]
              refine wpAnyH_ready (rs := [2]) (by kernel_rfl) (by simp) ?_
              refine (AllReadyH.cons (o := ?ooaey2) ?hoaey2 (fun K hK => ?hkaey2) AllReadyH.nil)
              case hoaey2 =>
                simp only [List.getElem?_toArray, List.getElem?_cons_succ, List.getElem?_cons_zero]
                rfl
              case hkaey2 =>
                go_simp
                go_at_call 38
                refine (specStmtOk (k : Int) 0 xn _).mono ?_
                rintro e y1 ⟨rfl, bq⟩
                rw [hok]
                have Y1 : Hid (Below wx.heap.size wx y1) := Below.trans (Below.drew (Below.refl _ _)) bq
                clear bq
                try go_wp2_with fail
                refine hK.out _ _ ⟨cell_step3 x0 Y1.out, cell_step3 x1 Y1.out, cell_step3 x2 Y1.out⟩ (fun hHeld => ?_)
                clear hK K
                try simp only [Act.put, List.setIfInBounds_toArray, List.set_cons_zero, List.set_cons_succ]
                refine wpAnyH_take (i := 3) (oi := ?oiaey3) (v := .bool true) ?hiaey3 (by kernel_rfl) (by kernel_rfl) (by kernel_rfl) ?hqaey3 ?hyaey3 hHeld ?hraey3
                case hiaey3 =>
                  simp only [List.getElem?_toArray, List.getElem?_cons_succ, List.getElem?_cons_zero]
                  rfl
                case hqaey3 => exact fun _ _ _ h => h
                case hyaey3 => exact Or.inl ⟨by kernel_rfl, fun w hSw => by go_simp⟩
                try simp only [Act.put, List.setIfInBounds_toArray, List.set_cons_zero, List.set_cons_succ]
                refine wpAnyH_take (i := 4) (oi := ?oiaey4) (v := .agg #[.int .i64 k, .int .i64 0, .int .i64 xn]) ?hiaey4 (by kernel_rfl) (by kernel_rfl) (by kernel_rfl) ?hqaey4 ?hyaey4 hHeld ?hraey4
                case hiaey4 =>
                  simp only [List.getElem?_toArray, List.getElem?_cons_succ, List.getElem?_cons_zero]
                  rfl
                case hqaey4 => exact fun _ _ _ h => h
                case hyaey4 => exact Or.inl ⟨by kernel_rfl, fun w hSw => by obtain ⟨s1, s2, s3⟩ := hSw; go_simp⟩
                try simp only [Act.put, List.setIfInBounds_toArray, List.set_cons_zero, List.set_cons_succ]
                refine wpAnyH_take (i := 6) (oi := ?oiaey6) (v := .string s) ?hiaey6 (by kernel_rfl) (by kernel_rfl) (by kernel_rfl) ?hqaey6 ?hyaey6 hHeld ?hraey6
                case hiaey6 =>
                  simp only [List.getElem?_toArray, List.getElem?_cons_succ, List.getElem?_cons_zero]
                  rfl
                case hqaey6 => exact fun _ _ _ h => h
                case hyaey6 => exact Or.inl ⟨by kernel_rfl, fun w hSw => by go_simp⟩
                try simp only [Act.put, List.setIfInBounds_toArray, List.set_cons_zero, List.set_cons_succ]
                refine wpAnyH_ready (rs := [5]) (by kernel_rfl) (by simp) ?_
                refine (AllReadyH.cons (o := ?ooaey5) ?hoaey5 (fun K hK => ?hkaey5) AllReadyH.nil)
                case hoaey5 =>
                  simp only [List.getElem?_toArray, List.getElem?_cons_succ, List.getElem?_cons_zero]
                  rfl
                case hkaey5 =>
                  go_simp
                  go_at_call 25
                  refine (l13Stmt ⟨k, 0, xn⟩ _ hok).mono ?_
                  rintro e y2 ⟨rfl, bq⟩
                  have Y2 : Hid (Below wx.heap.size wx y2) := Y1.out.trans (bq.mono Y1.out.size)
                  clear bq
                  try go_wp2_with fail
                  refine hK.out _ _ ⟨cell_step3 x0 Y2.out, cell_step3 x1 Y2.out, cell_step3 x2 Y2.out⟩ (fun hHeld => ?_)
                  clear hK K
                  try simp only [Act.put, List.setIfInBounds_toArray, List.set_cons_zero, List.set_cons_succ]
                  refine wpAnyH_take (i := 7) (oi := ?oiaey7) (v := .bool bB) ?hiaey7 (by kernel_rfl) (by kernel_rfl) (by kernel_rfl) ?hqaey7 ?hyaey7 hHeld ?hraey7
                  case hiaey7 =>
                    simp only [List.getElem?_toArray, List.getElem?_cons_succ, List.getElem?_cons_zero]
                    rfl
                  case hqaey7 => exact fun _ _ _ h => h
                  case hyaey7 => exact Or.inl ⟨by kernel_rfl, fun w hSw => by go_simp; first | done | exact hbB⟩
                  try simp only [Act.put, List.setIfInBounds_toArray, List.set_cons_zero, List.set_cons_succ]
                  refine wpAnyH_take (i := 8) (oi := ?oiaey8) (v := .bool bB) ?hiaey8 (by kernel_rfl) (by kernel_rfl) (by kernel_rfl) ?hqaey8 ?hyaey8 hHeld ?hraey8
                  case hiaey8 =>
                    simp only [List.getElem?_toArray, List.getElem?_cons_succ, List.getElem?_cons_zero]
                    rfl
                  case hqaey8 => exact fun _ _ _ h => h
                  case hyaey8 => exact Or.inl ⟨by kernel_rfl, fun w hSw => by go_simp⟩
                  try simp only [Act.put, List.setIfInBounds_toArray, List.set_cons_zero, List.set_cons_succ]
                  refine wpAnyH_ready (rs := [9]) (by kernel_rfl) (by simp) ?_
                  refine (AllReadyH.cons (o := ?ooaey9) ?hoaey9 (fun K hK => ?hkaey9) AllReadyH.nil)
                  case hoaey9 =>
                    simp only [List.getElem?_toArray, List.getElem?_cons_succ, List.getElem?_cons_zero]
                    rfl
                  case hkaey9 =>
                    have RR : y2.heap[w.heap.size]? = some (.cells #[.int .i64 0, .int .i64 0, .int .i64 0] 42 (0, 0)) := (Y2.out.block _ (by have := (Array.getElem?_eq_some_iff.1 RX.out).1; exact this)).trans RX.out
                    obtain ⟨⟨q0, q1, q2⟩, fr⟩ := threeC RR
                    have f0 := fr 0
                    have f1 := fr 1
                    have f2 := fr 2
                    have RS := threeS (.int .i64 k) (.int .i64 0) (.int .i64 xn) RR
                    obtain ⟨⟨r0, r1, r2⟩, -⟩ := threeC RS
                    have HBF : Hid (Below w.heap.size w (((y2.setCell ⟨w.heap.size, 0, none⟩ (.int .i64 k)).setCell ⟨w.heap.size, 1, none⟩ (.int .i64 0)).setCell ⟨w.heap.size, 2, none⟩ (.int .i64 xn))) := below_three (BX.out.trans (Y2.out.mono BX.out.size)) (Nat.le_refl _) _ _ _
                    clear RS RR fr
                    go_simp
                    try go_wp2_with fail
                    refine hK.out _ _ ⟨set3_cell hXw (cell_step3 x0 Y2.out) _ _ _, set3_cell hXw (cell_step3 x1 Y2.out) _ _ _, set3_cell hXw (cell_step3 x2 Y2.out) _ _ _⟩ (fun hHeld => ?_)
                    clear hK K
                    try simp only [Act.put, List.setIfInBounds_toArray, List.set_cons_zero, List.set_cons_succ]
                    refine wpAnyH_take (i := 10) (oi := ?oiaey10) (v := .bool bB) ?hiaey10 (by kernel_rfl) (by kernel_rfl) (by kernel_rfl) ?hqaey10 ?hyaey10 hHeld ?hraey10
                    case hiaey10 =>
                      simp only [List.getElem?_toArray, List.getElem?_cons_succ, List.getElem?_cons_zero]
                      rfl
                    case hqaey10 => exact fun _ _ _ h => h
                    case hyaey10 => exact Or.inl ⟨by kernel_rfl, fun w hSw => by go_simp⟩
                    try simp only [Act.put, List.setIfInBounds_toArray, List.set_cons_zero, List.set_cons_succ]
                    refine wpAnyH_done (by kernel_rfl) ?_ _
                    generalize (((y2.setCell ⟨w.heap.size, 0, none⟩ (.int .i64 k)).setCell ⟨w.heap.size, 1, none⟩ (.int .i64 0)).setCell ⟨w.heap.size, 2, none⟩ (.int .i64 xn)) = wf at *
                    go_wp2
                    refine bodyPost_ret (v := .tuple #[.agg #[.int .i64 k, .int .i64 0, .int .i64 xn], .bool bB]) (by simp [results, Tryd.results23, go_sem, r0, r1, r2]) rfl ?_
                    exact ⟨⟨k, 0, xn⟩, bB, rfl, HBF.out, HT.out, HF.out⟩
          have HRB : Hid (∀ u : Stm, stmtOk u.k u.x u.y = true → stmtT u = toL s → u = ⟨k, xn, yn⟩) := fun u hu e => by
            have := HRA.out u hu e
            rwa [if_neg (by omega)] at this
          have h7 : ((k : Int) == 7) = false := by rw [beq_eq_false_iff_ne]; omega
          have h8 : ((k : Int) == 8) = false := by rw [beq_eq_false_iff_ne]; omega
          obtain ⟨wx, hwx⟩ : ∃ wx, w3.alloc (.cells #[.int .i64 k, .int .i64 xn, .int .i64 yn] 42) = wx := ⟨_, rfl⟩
          have XR : wx.heap[w3.heap.size]? = some (.cells #[.int .i64 k, .int .i64 xn, .int .i64 yn] 42 (0, 0)) := by rw [← hwx]; exact heap_alloc_new _ _
          have RX : Hid (wx.heap[w.heap.size]? = some (.cells #[.int .i64 0, .int .i64 0, .int .i64 0] 42 (0, 0))) := by
            show wx.heap[w.heap.size]? = _
            rw [← hwx, old_block (Array.getElem?_eq_some_iff.1 R1.out).1]
            exact R1.out
          have BX : Hid (Below w.heap.size w wx) := by rw [← hwx]; exact B1.out.alloc B1.out.size _
          have hXn : w.heap.size < w3.heap.size := (Array.getElem?_eq_some_iff.1 R1.out).1
          have HWX : Hid _ := hwx
          clear HRA R1 B1 hwx
          go_wp2_with fail
          rw [HWX.out]
          obtain ⟨Xb, hXb⟩ : ∃ Xb, w3.heap.size = Xb := ⟨_, rfl⟩
          simp only [hXb] at *
          clear HWX
          obtain ⟨⟨x0, x1, x2⟩, -⟩ := threeC XR
          have hXw : Xb ≠ w.heap.size := by omega
          clear XR
          cases hok : stmtOk (k : Int) xn yn
          · have HF : Hid (∀ u : Stm, stmtOk u.k u.x u.y = true → stmtT u ≠ toL s) := fun u hu e => by
              have h9 := HRB.out u hu e
              subst h9
              exact absurd (hok.symm.trans hu) (by decide)
            clear HRB
            refine wp_region_held_drew (S := fun w' => w'.cell? ⟨Xb, 0, none⟩ = some (.int .i64 k) ∧ w'.cell? ⟨Xb, 1, none⟩ = some (.int .i64 xn) ∧ w'.cell? ⟨Xb, 2, none⟩ = some (.int .i64 yn)) (by kernel_rfl) ⟨x0, x1, x2⟩ (fun hHeld => ?_)
            refine wpAnyH_take (i := 0) (oi := ?oiaon0) (v := .agg #[.int .i64 k, .int .i64 xn, .int .i64 yn]) ?hiaon0 (by kernel_rfl) (by kernel_rfl) (by kernel_rfl) ?hqaon0 ?hyaon0 hHeld ?hraon0
            case hiaon0 =>
              simp only [List.getElem?_toArray, List.getElem?_cons_succ, List.getElem?_cons_zero]
              rfl
            case hqaon0 => exact fun _ _ _ h => h
            case hyaon0 => exact Or.inl ⟨by kernel_rfl, fun w hSw => by obtain ⟨s1, s2, s3⟩ := hSw; go_simp⟩
            try simp only [Act.put, List.setIfInBounds_toArray, List.set_cons_zero, List.set_cons_succ]
            refine wpAnyH_take (i := 1) (oi := ?oiaon1) (v := .agg #[.int .i64 k, .int .i64 xn, .int .i64 yn]) ?hiaon1 (by kernel_rfl) (by kernel_rfl) (by kernel_rfl) ?hqaon1 ?hyaon1 hHeld ?hraon1
            case hiaon1 =>
              simp only [List.getElem?_toArray, List.getElem?_cons_succ, List.getElem?_cons_zero]
              rfl
            case hqaon1 => exact fun _ _ _ h => h
            case hyaon1 => exact Or.inl ⟨by kernel_rfl, fun w hSw => by obtain ⟨s1, s2, s3⟩ := hSw; go_simp⟩
            try simp only [Act.put, List.setIfInBounds_toArray, List.set_cons_zero, List.set_cons_succ]
            refine wpAnyH_ready (rs := [2]) (by kernel_rfl) (by simp) ?_
            refine (AllReadyH.cons (o := ?ooaon2) ?hoaon2 (fun K hK => ?hkaon2) AllReadyH.nil)
            case hoaon2 =>
              simp only [List.getElem?_toArray, List.getElem?_cons_succ, List.getElem?_cons_zero]
              rfl
            case hkaon2 =>
              go_simp
              go_at_call 38
              refine (specStmtOk (k : Int) xn yn _).mono ?_
              rintro e y1 ⟨rfl, bq⟩
              rw [hok]
              have Y1 : Hid (Below wx.heap.size wx y1) := Below.trans (Below.drew (Below.refl _ _)) bq
              clear bq
              try go_wp2_with fail
              refine hK.out _ _ ⟨cell_step3 x0 Y1.out, cell_step3 x1 Y1.out, cell_step3 x2 Y1.out⟩ (fun hHeld => ?_)
              clear hK K
              try simp only [Act.put, List.setIfInBounds_toArray, List.set_cons_zero, List.set_cons_succ]
              refine wpAnyH_take (i := 3) (oi := ?oiaon3) (v := .bool false) ?hiaon3 (by kernel_rfl) (by kernel_rfl) (by kernel_rfl) ?hqaon3 ?hyaon3 hHeld ?hraon3
              case hiaon3 =>
                simp only [List.getElem?_toArray, List.getElem?_cons_succ, List.getElem?_cons_zero]
                rfl
              case hqaon3 => exact fun _ _ _ h => h
              case hyaon3 => exact Or.inl ⟨by kernel_rfl, fun w hSw => by go_simp⟩
              try simp only [Act.put, List.setIfInBounds_toArray, List.set_cons_zero, List.set_cons_succ]
              refine wpAnyH_take (i := 4) (oi := ?oiaon4) (v := undef) ?hiaon4 (by kernel_rfl) (by kernel_rfl) (by kernel_rfl) ?hqaon4 ?hyaon4 hHeld ?hraon4
              case hiaon4 =>
                simp only [List.getElem?_toArray, List.getElem?_cons_succ, List.getElem?_cons_zero]
                rfl
              case hqaon4 => exact fun _ _ _ h => h
              case hyaon4 => exact Or.inr ⟨by kernel_rfl, rfl⟩
              try simp only [Act.put, List.setIfInBounds_toArray, List.set_cons_zero, List.set_cons_succ]
              refine wpAnyH_take (i := 5) (oi := ?oiaon5) (v := undef) ?hiaon5 (by kernel_rfl) (by kernel_rfl) (by kernel_rfl) ?hqaon5 ?hyaon5 hHeld ?hraon5
              case hiaon5 =>
                simp only [List.getElem?_toArray, List.getElem?_cons_succ, List.getElem?_cons_zero]
                rfl
              case hqaon5 => exact fun _ _ _ h => h
              case hyaon5 => exact Or.inr ⟨by kernel_rfl, rfl⟩
              try simp only [Act.put, List.setIfInBounds_toArray, List.set_cons_zero, List.set_cons_succ]
              refine wpAnyH_take (i := 6) (oi := ?oiaon6) (v := undef) ?hiaon6 (by kernel_rfl) (by kernel_rfl) (by kernel_rfl) ?hqaon6 ?hyaon6 hHeld ?hraon6
              case hiaon6 =>
                simp only [List.getElem?_toArray, List.getElem?_cons_succ, List.getElem?_cons_zero]
                rfl
              case hqaon6 => exact fun _ _ _ h => h
              case hyaon6 => exact Or.inr ⟨by kernel_rfl, rfl⟩
              try simp only [Act.put, List.setIfInBounds_toArray, List.set_cons_zero, List.set_cons_succ]
              refine wpAnyH_take (i := 7) (oi := ?oiaon7) (v := undef) ?hiaon7 (by kernel_rfl) (by kernel_rfl) (by kernel_rfl) ?hqaon7 ?hyaon7 hHeld ?hraon7
              case hiaon7 =>
                simp only [List.getElem?_toArray, List.getElem?_cons_succ, List.getElem?_cons_zero]
                rfl
              case hqaon7 => exact fun _ _ _ h => h
              case hyaon7 => exact Or.inr ⟨by kernel_rfl, rfl⟩
              try simp only [Act.put, List.setIfInBounds_toArray, List.set_cons_zero, List.set_cons_succ]
              refine wpAnyH_take (i := 8) (oi := ?oiaon8) (v := .bool false) ?hiaon8 (by kernel_rfl) (by kernel_rfl) (by kernel_rfl) ?hqaon8 ?hyaon8 hHeld ?hraon8
              case hiaon8 =>
                simp only [List.getElem?_toArray, List.getElem?_cons_succ, List.getElem?_cons_zero]
                rfl
              case hqaon8 => exact fun _ _ _ h => h
              case hyaon8 => exact Or.inl ⟨by kernel_rfl, fun w hSw => by go_simp⟩
              try simp only [Act.put, List.setIfInBounds_toArray, List.set_cons_zero, List.set_cons_succ]
              refine wpAnyH_ready (rs := [9]) (by kernel_rfl) (by simp) ?_
              refine (AllReadyH.cons (o := ?ooaon9) ?hoaon9 (fun K hK => ?hkaon9) AllReadyH.nil)
              case hoaon9 =>
                simp only [List.getElem?_toArray, List.getElem?_cons_succ, List.getElem?_cons_zero]
                rfl
              case hkaon9 =>
                have RR : y1.heap[w.heap.size]? = some (.cells #[.int .i64 0, .int .i64 0, .int .i64 0] 42 (0, 0)) := (Y1.out.block _ (by have := (Array.getElem?_eq_some_iff.1 RX.out).1; exact this)).trans RX.out
                obtain ⟨⟨q0, q1, q2⟩, fr⟩ := threeC RR
                have f0 := fr 0
                have f1 := fr 1
                have f2 := fr 2
                have RS := threeS (.int .i64 k) (.int .i64 xn) (.int .i64 yn) RR
                obtain ⟨⟨r0, r1, r2⟩, -⟩ := threeC RS
                have HBF : Hid (Below w.heap.size w (((y1.setCell ⟨w.heap.size, 0, none⟩ (.int .i64 k)).setCell ⟨w.heap.size, 1, none⟩ (.int .i64 xn)).setCell ⟨w.heap.size, 2, none⟩ (.int .i64 yn))) := below_three (BX.out.trans (Y1.out.mono BX.out.size)) (Nat.le_refl _) _ _ _
                clear RS RR fr
                go_simp
                try go_wp2_with fail
                refine hK.out _ _ ⟨set3_cell hXw (cell_step3 x0 Y1.out) _ _ _, set3_cell hXw (cell_step3 x1 Y1.out) _ _ _, set3_cell hXw (cell_step3 x2 Y1.out) _ _ _⟩ (fun hHeld => ?_)
                clear hK K
                try simp only [Act.put, List.setIfInBounds_toArray, List.set_cons_zero, List.set_cons_succ]
                refine wpAnyH_take (i := 10) (oi := ?oiaon10) (v := .bool false) ?hiaon10 (by kernel_rfl) (by kernel_rfl) (by kernel_rfl) ?hqaon10 ?hyaon10 hHeld ?hraon10
                case hiaon10 =>
                  simp only [List.getElem?_toArray, List.getElem?_cons_succ, List.getElem?_cons_zero]
                  rfl
                case hqaon10 => exact fun _ _ _ h => h
                case hyaon10 => exact Or.inl ⟨by kernel_rfl, fun w hSw => by go_simp⟩
                try simp only [Act.put, List.setIfInBounds_toArray, List.set_cons_zero, List.set_cons_succ]
                refine wpAnyH_done (by kernel_rfl) ?_ _
                generalize (((y1.setCell ⟨w.heap.size, 0, none⟩ (.int .i64 k)).setCell ⟨w.heap.size, 1, none⟩ (.int .i64 xn)).setCell ⟨w.heap.size, 2, none⟩ (.int .i64 yn)) = wf at *
                go_wp2
                refine bodyPost_ret (v := .tuple #[.agg #[.int .i64 k, .int .i64 xn, .int .i64 yn], .bool false]) (by simp [results, Tryd.results23, go_sem, r0, r1, r2]) rfl ?_
                exact ⟨⟨k, xn, yn⟩, false, rfl, HBF.out, fun h => absurd h (by decide), fun _ => HF.out⟩
          · obtain ⟨bB, hbB⟩ : ∃ bB, (stmtT ⟨k, xn, yn⟩ == s.toList) = bB := ⟨_, rfl⟩
            have HT : Hid (bB = true → stmtOk (k : Int) xn yn = true ∧ stmtT ⟨k, xn, yn⟩ = toL s) := fun h => by
              subst h
              refine ⟨hok, ?_⟩
              have := eq_of_beq hbB
              rw [ByteArray.toList_eq] at this
              exact this
            have HF : Hid (bB = false → ∀ u : Stm, stmtOk u.k u.x u.y = true → stmtT u ≠ toL s) := fun h u hu e => by
              subst h
              have h9 := HRB.out u hu e
              subst h9
              refine absurd ?_ (beq_eq_false_iff_ne.1 hbB)
              rw [ByteArray.toList_eq]
              exact e
            clear HRB
            refine wp_region_held_drew (S := fun w' => w'.cell? ⟨Xb, 0, none⟩ = some (.int .i64 k) ∧ w'.cell? ⟨Xb, 1, none⟩ = some (.int .i64 xn) ∧ w'.cell? ⟨Xb, 2, none⟩ = some (.int .i64 yn)) (by kernel_rfl) ⟨x0, x1, x2⟩ (fun hHeld => ?_)
            refine wpAnyH_take (i := 0) (oi := ?oiaoy0) (v := .agg #[.int .i64 k, .int .i64 xn, .int .i64 yn]) ?hiaoy0 (by kernel_rfl) (by kernel_rfl) (by kernel_rfl) ?hqaoy0 ?hyaoy0 hHeld ?hraoy0
            case hiaoy0 =>
              simp only [List.getElem?_toArray, List.getElem?_cons_succ, List.getElem?_cons_zero]
              rfl
            case hqaoy0 => exact fun _ _ _ h => h
            case hyaoy0 => exact Or.inl ⟨by kernel_rfl, fun w hSw => by obtain ⟨s1, s2, s3⟩ := hSw; go_simp⟩
            try simp only [Act.put, List.setIfInBounds_toArray, List.set_cons_zero, List.set_cons_succ]
            refine wpAnyH_take (i := 1) (oi := ?oiaoy1) (v := .agg #[.int .i64 k, .int .i64 xn, .int .i64 yn]) ?hiaoy1 (by kernel_rfl) (by kernel_rfl) (by kernel_rfl) ?hqaoy1 ?hyaoy1 hHeld ?hraoy1
            case hiaoy1 =>
              simp only [List.getElem?_toArray, List.getElem?_cons_succ, List.getElem?_cons_zero]
              rfl
            case hqaoy1 => exact fun _ _ _ h => h
            case hyaoy1 => exact Or.inl ⟨by kernel_rfl, fun w hSw => by obtain ⟨s1, s2, s3⟩ := hSw; go_simp⟩
            try simp only [Act.put, List.setIfInBounds_toArray, List.set_cons_zero, List.set_cons_succ]
            refine wpAnyH_ready (rs := [2]) (by kernel_rfl) (by simp) ?_
            refine (AllReadyH.cons (o := ?ooaoy2) ?hoaoy2 (fun K hK => ?hkaoy2) AllReadyH.nil)
            case hoaoy2 =>
              simp only [List.getElem?_toArray, List.getElem?_cons_succ, List.getElem?_cons_zero]
              rfl
            case hkaoy2 =>
              go_simp
              go_at_call 38
              refine (specStmtOk (k : Int) xn yn _).mono ?_
              rintro e y1 ⟨rfl, bq⟩
              rw [hok]
              have Y1 : Hid (Below wx.heap.size wx y1) := Below.trans (Below.drew (Below.refl _ _)) bq
              clear bq
              try go_wp2_with fail
              refine hK.out _ _ ⟨cell_step3 x0 Y1.out, cell_step3 x1 Y1.out, cell_step3 x2 Y1.out⟩ (fun hHeld => ?_)
              clear hK K
              try simp only [Act.put, List.setIfInBounds_toArray, List.set_cons_zero, List.set_cons_succ]
              refine wpAnyH_take (i := 3) (oi := ?oiaoy3) (v := .bool true) ?hiaoy3 (by kernel_rfl) (by kernel_rfl) (by kernel_rfl) ?hqaoy3 ?hyaoy3 hHeld ?hraoy3
              case hiaoy3 =>
                simp only [List.getElem?_toArray, List.getElem?_cons_succ, List.getElem?_cons_zero]
                rfl
              case hqaoy3 => exact fun _ _ _ h => h
              case hyaoy3 => exact Or.inl ⟨by kernel_rfl, fun w hSw => by go_simp⟩
              try simp only [Act.put, List.setIfInBounds_toArray, List.set_cons_zero, List.set_cons_succ]
              refine wpAnyH_take (i := 4) (oi := ?oiaoy4) (v := .agg #[.int .i64 k, .int .i64 xn, .int .i64 yn]) ?hiaoy4 (by kernel_rfl) (by kernel_rfl) (by kernel_rfl) ?hqaoy4 ?hyaoy4 hHeld ?hraoy4
              case hiaoy4 =>
                simp only [List.getElem?_toArray, List.getElem?_cons_succ, List.getElem?_cons_zero]
                rfl
              case hqaoy4 => exact fun _ _ _ h => h
              case hyaoy4 => exact Or.inl ⟨by kernel_rfl, fun w hSw => by obtain ⟨s1, s2, s3⟩ := hSw; go_simp⟩
              try simp only [Act.put, List.setIfInBounds_toArray, List.set_cons_zero, List.set_cons_succ]
              refine wpAnyH_take (i := 6) (oi := ?oiaoy6) (v := .string s) ?hiaoy6 (by kernel_rfl) (by kernel_rfl) (by kernel_rfl) ?hqaoy6 ?hyaoy6 hHeld ?hraoy6
              case hiaoy6 =>
                simp only [List.getElem?_toArray, List.getElem?_cons_succ, List.getElem?_cons_zero]
                rfl
              case hqaoy6 => exact fun _ _ _ h => h
              case hyaoy6 => exact Or.inl ⟨by kernel_rfl, fun w hSw => by go_simp⟩
              try simp only [Act.put, List.setIfInBounds_toArray, List.set_cons_zero, List.set_cons_succ]
              refine wpAnyH_ready (rs := [5]) (by kernel_rfl) (by simp) ?_
              refine (AllReadyH.cons (o := ?ooaoy5) ?hoaoy5 (fun K hK => ?hkaoy5) AllReadyH.nil)
              case hoaoy5 =>
                simp only [List.getElem?_toArray, List.getElem?_cons_succ, List.getElem?_cons_zero]
                rfl
              case hkaoy5 =>
                go_simp
                go_at_call 25
                refine (l13Stmt ⟨k, xn, yn⟩ _ hok).mono ?_
                rintro e y2 ⟨rfl, bq⟩
                have Y2 : Hid (Below wx.heap.size wx y2) := Y1.out.trans (bq.mono Y1.out.size)
                clear bq
                try go_wp2_with fail
                refine hK.out _ _ ⟨cell_step3 x0 Y2.out, cell_step3 x1 Y2.out, cell_step3 x2 Y2.out⟩ (fun hHeld => ?_)
                clear hK K
                try simp only [Act.put, List.setIfInBounds_toArray, List.set_cons_zero, List.set_cons_succ]
                refine wpAnyH_take (i := 7) (oi := ?oiaoy7) (v := .bool bB) ?hiaoy7 (by kernel_rfl) (by kernel_rfl) (by kernel_rfl) ?hqaoy7 ?hyaoy7 hHeld ?hraoy7
                case hiaoy7 =>
                  simp only [List.getElem?_toArray, List.getElem?_cons_succ, List.getElem?_cons_zero]
                  rfl
                case hqaoy7 => exact fun _ _ _ h => h
                case hyaoy7 => exact Or.inl ⟨by kernel_rfl, fun w hSw => by go_simp; first | done | exact hbB⟩
                try simp only [Act.put, List.setIfInBounds_toArray, List.set_cons_zero, List.set_cons_succ]
                refine wpAnyH_take (i := 8) (oi := ?oiaoy8) (v := .bool bB) ?hiaoy8 (by kernel_rfl) (by kernel_rfl) (by kernel_rfl) ?hqaoy8 ?hyaoy8 hHeld ?hraoy8
                case hiaoy8 =>
                  simp only [List.getElem?_toArray, List.getElem?_cons_succ, List.getElem?_cons_zero]
                  rfl
                case hqaoy8 => exact fun _ _ _ h => h
                case hyaoy8 => exact Or.inl ⟨by kernel_rfl, fun w hSw => by go_simp⟩
                try simp only [Act.put, List.setIfInBounds_toArray, List.set_cons_zero, List.set_cons_succ]
                refine wpAnyH_ready (rs := [9]) (by kernel_rfl) (by simp) ?_
                refine (AllReadyH.cons (o := ?ooaoy9) ?hoaoy9 (fun K hK => ?hkaoy9) AllReadyH.nil)
                case hoaoy9 =>
                  simp only [List.getElem?_toArray, List.getElem?_cons_succ, List.getElem?_cons_zero]
                  rfl
                case hkaoy9 =>
                  have RR : y2.heap[w.heap.size]? = some (.cells #[.int .i64 0, .int .i64 0, .int .i64 0] 42 (0, 0)) := (Y2.out.block _ (by have := (Array.getElem?_eq_some_iff.1 RX.out).1; exact this)).trans RX.out
                  obtain ⟨⟨q0, q1, q2⟩, fr⟩ := threeC RR
                  have f0 := fr 0
                  have f1 := fr 1
                  have f2 := fr 2
                  have RS := threeS (.int .i64 k) (.int .i64 xn) (.int .i64 yn) RR
                  obtain ⟨⟨r0, r1, r2⟩, -⟩ := threeC RS
                  have HBF : Hid (Below w.heap.size w (((y2.setCell ⟨w.heap.size, 0, none⟩ (.int .i64 k)).setCell ⟨w.heap.size, 1, none⟩ (.int .i64 xn)).setCell ⟨w.heap.size, 2, none⟩ (.int .i64 yn))) := below_three (BX.out.trans (Y2.out.mono BX.out.size)) (Nat.le_refl _) _ _ _
                  clear RS RR fr
                  go_simp
                  try go_wp2_with fail
                  refine hK.out _ _ ⟨set3_cell hXw (cell_step3 x0 Y2.out) _ _ _, set3_cell hXw (cell_step3 x1 Y2.out) _ _ _, set3_cell hXw (cell_step3 x2 Y2.out) _ _ _⟩ (fun hHeld => ?_)
                  clear hK K
                  try simp only [Act.put, List.setIfInBounds_toArray, List.set_cons_zero, List.set_cons_succ]
                  refine wpAnyH_take (i := 10) (oi := ?oiaoy10) (v := .bool bB) ?hiaoy10 (by kernel_rfl) (by kernel_rfl) (by kernel_rfl) ?hqaoy10 ?hyaoy10 hHeld ?hraoy10
                  case hiaoy10 =>
                    simp only [List.getElem?_toArray, List.getElem?_cons_succ, List.getElem?_cons_zero]
                    rfl
                  case hqaoy10 => exact fun _ _ _ h => h
                  case hyaoy10 => exact Or.inl ⟨by kernel_rfl, fun w hSw => by go_simp⟩
                  try simp only [Act.put, List.setIfInBounds_toArray, List.set_cons_zero, List.set_cons_succ]
                  refine wpAnyH_done (by kernel_rfl) ?_ _
                  generalize (((y2.setCell ⟨w.heap.size, 0, none⟩ (.int .i64 k)).setCell ⟨w.heap.size, 1, none⟩ (.int .i64 xn)).setCell ⟨w.heap.size, 2, none⟩ (.int .i64 yn)) = wf at *
                  go_wp2
                  refine bodyPost_ret (v := .tuple #[.agg #[.int .i64 k, .int .i64 xn, .int .i64 yn], .bool bB]) (by simp [results, Tryd.results23, go_sem, r0, r1, r2]) rfl ?_
                  exact ⟨⟨k, xn, yn⟩, bB, rfl, HBF.out, HT.out, HF.out⟩
        · have h2i : ¬ (1 : Int) < (ts.length : Int) := by omega
          have HRA : Hid (∀ u : Stm, stmtOk u.k u.x u.y = true → stmtT u = toL s → u = if (k : Int) = 7 ∨ (k : Int) = 8 then ⟨k, 0, xn⟩ else ⟨k, xn, 0⟩) := fun u hu e =>
            read_back hu (by omega) (by omega) (e.trans HH2.out) HTS.out (fun m hm h => hx1 m hm (by rw [getD_part (by omega)] at h; exact h)) (fun h => hx2 (by rw [getD_part (by omega)] at h; exact h)) (fun h => by rw [List.length_map] at h; omega) (fun h => rfl)
          clear hx1 hx2 HTS HOW HH2
          by_cases h7e : k = 7
          · have HRB : Hid (∀ u : Stm, stmtOk u.k u.x u.y = true → stmtT u = toL s → u = ⟨k, 0, xn⟩) := fun u hu e => by
              have := HRA.out u hu e
              rwa [if_pos (by omega)] at this
            have h7 : ((k : Int) == 7) = true := by rw [beq_iff_eq]; omega
            clear h7e
            obtain ⟨wx, hwx⟩ : ∃ wx, w2.alloc (.cells #[.int .i64 k, .int .i64 0, .int .i64 xn] 42) = wx := ⟨_, rfl⟩
            have XR : wx.heap[w2.heap.size]? = some (.cells #[.int .i64 k, .int .i64 0, .int .i64 xn] 42 (0, 0)) := by rw [← hwx]; exact heap_alloc_new _ _
            have RX : Hid (wx.heap[w.heap.size]? = some (.cells #[.int .i64 0, .int .i64 0, .int .i64 0] 42 (0, 0))) := by
              show wx.heap[w.heap.size]? = _
              rw [← hwx, old_block (Array.getElem?_eq_some_iff.1 R1.out).1]
              exact R1.out
            have BX : Hid (Below w.heap.size w wx) := by rw [← hwx]; exact B1.out.alloc B1.out.size _
            have hXn : w.heap.size < w2.heap.size := (Array.getElem?_eq_some_iff.1 R1.out).1
            have HWX : Hid _ := hwx
            clear HRA R1 B1 hwx
            go_wp2_with fail
            rw [HWX.out]
            obtain ⟨Xb, hXb⟩ : ∃ Xb, w2.heap.size = Xb := ⟨_, rfl⟩
            simp only [hXb] at *
            clear HWX
            obtain ⟨⟨x0, x1, x2⟩, -⟩ := threeC XR
            have hXw : Xb ≠ w.heap.size := by omega
            clear XR
            cases hok : stmtOk (k : Int) 0 xn
            · have HF : Hid (∀ u : Stm, stmtOk u.k u.x u.y = true → stmtT u ≠ toL s) := fun u hu e => by
                have h9 := HRB.out u hu e
                subst h9
                exact absurd (hok.symm.trans hu) (by decide)
              clear HRB
              refine wp_region_held_drew (S := fun w' => w'.cell? ⟨Xb, 0, none⟩ = some (.int .i64 k) ∧ w'.cell? ⟨Xb, 1, none⟩ = some (.int .i64 0) ∧ w'.cell? ⟨Xb, 2, none⟩ = some (.int .i64 xn)) (by kernel_rfl) ⟨x0, x1, x2⟩ (fun hHeld => ?_)
              refine wpAnyH_take (i := 0) (oi := ?oibsn0) (v := .agg #[.int .i64 k, .int .i64 0, .int .i64 xn]) ?hibsn0 (by kernel_rfl) (by kernel_rfl) (by kernel_rfl) ?hqbsn0 ?hybsn0 hHeld ?hrbsn0
              case hibsn0 =>
                simp only [List.getElem?_toArray, List.getElem?_cons_succ, List.getElem?_cons_zero]
                rfl
              case hqbsn0 => exact fun _ _ _ h => h
              case hybsn0 => exact Or.inl ⟨by kernel_rfl, fun w hSw => by obtain ⟨s1, s2, s3⟩ := hSw; go_simp⟩
              try simp only [Act.put, List.setIfInBounds_toArray, List.set_cons_zero, List.set_cons_succ]
              refine wpAnyH_take (i := 1) (oi := ?oibsn1) (v := .agg #[.int .i64 k, .int .i64 0, .int .i64 xn]) ?hibsn1 (by kernel_rfl) (by kernel_rfl) (by kernel_rfl) ?hqbsn1 ?hybsn1 hHeld ?hrbsn1
              case hibsn1 =>
                simp only [List.getElem?_toArray, List.getElem?_cons_succ, List.getElem?_cons_zero]
                rfl
              case hqbsn1 => exact fun _ _ _ h => h
              case hybsn1 => exact Or.inl ⟨by kernel_rfl, fun w hSw => by obtain ⟨s1, s2, s3⟩ := hSw; go_simp⟩
              try simp only [Act.put, List.setIfInBounds_toArray, List.set_cons_zero, List.set_cons_succ]
              refine wpAnyH_ready (rs := [2]) (by kernel_rfl) (by simp) ?_
              refine (AllReadyH.cons (o := ?oobsn2) ?hobsn2 (fun K hK => ?hkbsn2) AllReadyH.nil)
              case hobsn2 =>
                simp only [List.getElem?_toArray, List.getElem?_cons_succ, List.getElem?_cons_zero]
                rfl
              case hkbsn2 =>
                go_simp
                go_at_call 38
                refine (specStmtOk (k : Int) 0 xn _).mono ?_
                rintro e y1 ⟨rfl, bq⟩
                rw [hok]
                have Y1 : Hid (Below wx.heap.size wx y1) := Below.trans (Below.drew (Below.refl _ _)) bq
                clear bq
                try go_wp2_with fail
                refine hK.out _ _ ⟨cell_step3 x0 Y1.out, cell_step3 x1 Y1.out, cell_step3 x2 Y1.out⟩ (fun hHeld => ?_)
                clear hK K
                try simp only [Act.put, List.setIfInBounds_toArray, List.set_cons_zero, List.set_cons_succ]
                refine wpAnyH_take (i := 3) (oi := ?oibsn3) (v := .bool false) ?hibsn3 (by kernel_rfl) (by kernel_rfl) (by kernel_rfl) ?hqbsn3 ?hybsn3 hHeld ?hrbsn3
                case hibsn3 =>
                  simp only [List.getElem?_toArray, List.getElem?_cons_succ, List.getElem?_cons_zero]
                  rfl
                case hqbsn3 => exact fun _ _ _ h => h
                case hybsn3 => exact Or.inl ⟨by kernel_rfl, fun w hSw => by go_simp⟩
                try simp only [Act.put, List.setIfInBounds_toArray, List.set_cons_zero, List.set_cons_succ]
                refine wpAnyH_take (i := 4) (oi := ?oibsn4) (v := undef) ?hibsn4 (by kernel_rfl) (by kernel_rfl) (by kernel_rfl) ?hqbsn4 ?hybsn4 hHeld ?hrbsn4
                case hibsn4 =>
                  simp only [List.getElem?_toArray, List.getElem?_cons_succ, List.getElem?_cons_zero]
                  rfl
                case hqbsn4 => exact fun _ _ _ h => h
                case hybsn4 => exact Or.inr ⟨by kernel_rfl, rfl⟩
                try simp only [Act.put, List.setIfInBounds_toArray, List.set_cons_zero, List.set_cons_succ]
                refine wpAnyH_take (i := 5) (oi := ?oibsn5) (v := undef) ?hibsn5 (by kernel_rfl) (by kernel_rfl) (by kernel_rfl) ?hqbsn5 ?hybsn5 hHeld ?hrbsn5
                case hibsn5 =>
                  simp only [List.getElem?_toArray, List.getElem?_cons_succ, List.getElem?_cons_zero]
                  rfl
                case hqbsn5 => exact fun _ _ _ h => h
                case hybsn5 => exact Or.inr ⟨by kernel_rfl, rfl⟩
                try simp only [Act.put, List.setIfInBounds_toArray, List.set_cons_zero, List.set_cons_succ]
                refine wpAnyH_take (i := 6) (oi := ?oibsn6) (v := undef) ?hibsn6 (by kernel_rfl) (by kernel_rfl) (by kernel_rfl) ?hqbsn6 ?hybsn6 hHeld ?hrbsn6
                case hibsn6 =>
                  simp only [List.getElem?_toArray, List.getElem?_cons_succ, List.getElem?_cons_zero]
                  rfl
                case hqbsn6 => exact fun _ _ _ h => h
                case hybsn6 => exact Or.inr ⟨by kernel_rfl, rfl⟩
                try simp only [Act.put, List.setIfInBounds_toArray, List.set_cons_zero, List.set_cons_succ]
                refine wpAnyH_take (i := 7) (oi := ?oibsn7) (v := undef) ?hibsn7 (by kernel_rfl) (by kernel_rfl) (by kernel_rfl) ?hqbsn7 ?hybsn7 hHeld ?hrbsn7
                case hibsn7 =>
                  simp only [List.getElem?_toArray, List.getElem?_cons_succ, List.getElem?_cons_zero]
                  rfl
                case hqbsn7 => exact fun _ _ _ h => h
                case hybsn7 => exact Or.inr ⟨by kernel_rfl, rfl⟩
                try simp only [Act.put, List.setIfInBounds_toArray, List.set_cons_zero, List.set_cons_succ]
                refine wpAnyH_take (i := 8) (oi := ?oibsn8) (v := .bool false) ?hibsn8 (by kernel_rfl) (by kernel_rfl) (by kernel_rfl) ?hqbsn8 ?hybsn8 hHeld ?hrbsn8
                case hibsn8 =>
                  simp only [List.getElem?_toArray, List.getElem?_cons_succ, List.getElem?_cons_zero]
                  rfl
                case hqbsn8 => exact fun _ _ _ h => h
                case hybsn8 => exact Or.inl ⟨by kernel_rfl, fun w hSw => by go_simp⟩
                try simp only [Act.put, List.setIfInBounds_toArray, List.set_cons_zero, List.set_cons_succ]
                refine wpAnyH_ready (rs := [9]) (by kernel_rfl) (by simp) ?_
                refine (AllReadyH.cons (o := ?oobsn9) ?hobsn9 (fun K hK => ?hkbsn9) AllReadyH.nil)
                case hobsn9 =>
                  simp only [List.getElem?_toArray, List.getElem?_cons_succ, List.getElem?_cons_zero]
                  rfl
                case hkbsn9 =>
                  have RR : y1.heap[w.heap.size]? = some (.cells #[.int .i64 0, .int .i64 0, .int .i64 0] 42 (0, 0)) := (Y1.out.block _ (by have := (Array.getElem?_eq_some_iff.1 RX.out).1; exact this)).trans RX.out
                  obtain ⟨⟨q0, q1, q2⟩, fr⟩ := threeC RR
                  have f0 := fr 0
                  have f1 := fr 1
                  have f2 := fr 2
                  have RS := threeS (.int .i64 k) (.int .i64 0) (.int .i64 xn) RR
                  obtain ⟨⟨r0, r1, r2⟩, -⟩ := threeC RS
                  have HBF : Hid (Below w.heap.size w (((y1.setCell ⟨w.heap.size, 0, none⟩ (.int .i64 k)).setCell ⟨w.heap.size, 1, none⟩ (.int .i64 0)).setCell ⟨w.heap.size, 2, none⟩ (.int .i64 xn))) := below_three (BX.out.trans (Y1.out.mono BX.out.size)) (Nat.le_refl _) _ _ _
                  clear RS RR fr
                  go_simp
                  try go_wp2_with fail
                  refine hK.out _ _ ⟨set3_cell hXw (cell_step3 x0 Y1.out) _ _ _, set3_cell hXw (cell_step3 x1 Y1.out) _ _ _, set3_cell hXw (cell_step3 x2 Y1.out) _ _ _⟩ (fun hHeld => ?_)
                  clear hK K
                  try simp only [Act.put, List.setIfInBounds_toArray, List.set_cons_zero, List.set_cons_succ]
                  refine wpAnyH_take (i := 10) (oi := ?oibsn10) (v := .bool false) ?hibsn10 (by kernel_rfl) (by kernel_rfl) (by kernel_rfl) ?hqbsn10 ?hybsn10 hHeld ?hrbsn10
                  case hibsn10 =>
                    simp only [List.getElem?_toArray, List.getElem?_cons_succ, List.getElem?_cons_zero]
                    rfl
                  case hqbsn10 => exact fun _ _ _ h => h
                  case hybsn10 => exact Or.inl ⟨by kernel_rfl, fun w hSw => by go_simp⟩
                  try simp only [Act.put, List.setIfInBounds_toArray, List.set_cons_zero, List.set_cons_succ]
                  refine wpAnyH_done (by kernel_rfl) ?_ _
                  generalize (((y1.setCell ⟨w.heap.size, 0, none⟩ (.int .i64 k)).setCell ⟨w.heap.size, 1, none⟩ (.int .i64 0)).setCell ⟨w.heap.size, 2, none⟩ (.int .i64 xn)) = wf at *
                  go_wp2
                  refine bodyPost_ret (v := .tuple #[.agg #[.int .i64 k, .int .i64 0, .int .i64 xn], .bool false]) (by simp [results, Tryd.results23, go_sem, r0, r1, r2]) rfl ?_
                  exact ⟨⟨k, 0, xn⟩, false, rfl, HBF.out, fun h => absurd h (by decide), fun _ => HF.out⟩
            · obtain ⟨bB, hbB⟩ : ∃ bB, (stmtT ⟨k, 0, xn⟩ == s.toList) = bB := ⟨_, rfl⟩
              have HT : Hid (bB = true → stmtOk (k : Int) 0 xn = true ∧ stmtT ⟨k, 0, xn⟩ = toL s) := fun h => by
                subst h
                refine ⟨hok, ?_⟩
                have := eq_of_beq hbB
                rw [ByteArray.toList_eq] at this
                exact this
              have HF : Hid (bB = false → ∀ u : Stm, stmtOk u.k u.x u.y = true → stmtT u ≠ toL s) := fun h u hu e => by
                subst h
                have h9 := HRB.out u hu e
                subst h9
                refine absurd ?_ (beq_eq_false_iff_ne.1 hbB)
                rw [ByteArray.toList_eq]
                exact e
              clear HRB
              refine wp_region_held_drew (S := fun w' => w'.cell? ⟨Xb, 0, none⟩ = some (.int .i64 k) ∧ w'.cell? ⟨Xb, 1, none⟩ = some (.int .i64 0) ∧ w'.cell? ⟨Xb, 2, none⟩ = some (.int .i64 xn)) (by kernel_rfl) ⟨x0, x1, x2⟩ (fun hHeld => ?_)
              refine wpAnyH_take (i := 0) (oi := ?oibsy0) (v := .agg #[.int .i64 k, .int .i64 0, .int .i64 xn]) ?hibsy0 (by kernel_rfl) (by kernel_rfl) (by kernel_rfl) ?hqbsy0 ?hybsy0 hHeld ?hrbsy0
              case hibsy0 =>
                simp only [List.getElem?_toArray, List.getElem?_cons_succ, List.getElem?_cons_zero]
                rfl
              case hqbsy0 => exact fun _ _ _ h => h
              case hybsy0 => exact Or.inl ⟨by kernel_rfl, fun w hSw => by obtain ⟨s1, s2, s3⟩ := hSw; go_simp⟩
              try simp only [Act.put, List.setIfInBounds_toArray, List.set_cons_zero, List.set_cons_succ]
              refine wpAnyH_take (i := 1) (oi := ?oibsy1) (v := .agg #[.int .i64 k, .int .i64 0, .int .i64 xn]) ?hibsy1 (by kernel_rfl) (by kernel_rfl) (by kernel_rfl) ?hqbsy1 ?hybsy1 hHeld ?hrbsy1
              case hibsy1 =>
                simp only [List.getElem?_toArray, List.getElem?_cons_succ, List.getElem?_cons_zero]
                rfl
              case hqbsy1 => exact fun _ _ _ h => h
              case hybsy1 => exact Or.inl ⟨by kernel_rfl, fun w hSw => by obtain ⟨s1, s2, s3⟩ := hSw; go_simp⟩
              try simp only [Act.put, List.setIfInBounds_toArray, List.set_cons_zero, List.set_cons_succ]
              refine wpAnyH_ready (rs := [2]) (by kernel_rfl) (by simp) ?_
              refine (AllReadyH.cons (o := ?oobsy2) ?hobsy2 (fun K hK => ?hkbsy2) AllReadyH.nil)
              case hobsy2 =>
                simp only [List.getElem?_toArray, List.getElem?_cons_succ, List.getElem?_cons_zero]
                rfl
              case hkbsy2 =>
                go_simp
                go_at_call 38
                refine (specStmtOk (k : Int) 0 xn _).mono ?_
                rintro e y1 ⟨rfl, bq⟩
                rw [hok]
                have Y1 : Hid (Below wx.heap.size wx y1) := Below.trans (Below.drew (Below.refl _ _)) bq
                clear bq
                try go_wp2_with fail
                refine hK.out _ _ ⟨cell_step3 x0 Y1.out, cell_step3 x1 Y1.out, cell_step3 x2 Y1.out⟩ (fun hHeld => ?_)
                clear hK K
                try simp only [Act.put, List.setIfInBounds_toArray, List.set_cons_zero, List.set_cons_succ]
                refine wpAnyH_take (i := 3) (oi := ?oibsy3) (v := .bool true) ?hibsy3 (by kernel_rfl) (by kernel_rfl) (by kernel_rfl) ?hqbsy3 ?hybsy3 hHeld ?hrbsy3
                case hibsy3 =>
                  simp only [List.getElem?_toArray, List.getElem?_cons_succ, List.getElem?_cons_zero]
                  rfl
                case hqbsy3 => exact fun _ _ _ h => h
                case hybsy3 => exact Or.inl ⟨by kernel_rfl, fun w hSw => by go_simp⟩
                try simp only [Act.put, List.setIfInBounds_toArray, List.set_cons_zero, List.set_cons_succ]
                refine wpAnyH_take (i := 4) (oi := ?oibsy4) (v := .agg #[.int .i64 k, .int .i64 0, .int .i64 xn]) ?hibsy4 (by kernel_rfl) (by kernel_rfl) (by kernel_rfl) ?hqbsy4 ?hybsy4 hHeld ?hrbsy4
                case hibsy4 =>
                  simp only [List.getElem?_toArray, List.getElem?_cons_succ, List.getElem?_cons_zero]
                  rfl
                case hqbsy4 => exact fun _ _ _ h => h
                case hybsy4 => exact Or.inl ⟨by kernel_rfl, fun w hSw => by obtain ⟨s1, s2, s3⟩ := hSw; go_simp⟩
                try simp only [Act.put, List.setIfInBounds_toArray, List.set_cons_zero, List.set_cons_succ]
                refine wpAnyH_take (i := 6) (oi := ?oibsy6) (v := .string s) ?hibsy6 (by kernel_rfl) (by kernel_rfl) (by kernel_rfl) ?hqbsy6 ?hybsy6 hHeld ?hrbsy6
                case hibsy6 =>
                  simp only [List.getElem?_toArray, List.getElem?_cons_succ, List.getElem?_cons_zero]
                  rfl
                case hqbsy6 => exact fun _ _ _ h => h
                case hybsy6 => exact Or.inl ⟨by kernel_rfl, fun w hSw => by go_simp⟩
                try simp only [Act.put, List.setIfInBounds_toArray, List.set_cons_zero, List.set_cons_succ]
                refine wpAnyH_ready (rs := [5]) (by kernel_rfl) (by simp) ?_
                refine (AllReadyH.cons (o := ?oobsy5) ?hobsy5 (fun K hK => ?hkbsy5) AllReadyH.nil)
                case hobsy5 =>
                  simp only [List.getElem?_toArray, List.getElem?_cons_succ, List.getElem?_cons_zero]
                  rfl
                case hkbsy5 =>
                  go_simp
                  go_at_call 25
                  refine (l13Stmt ⟨k, 0, xn⟩ _ hok).mono ?_
                  rintro e y2 ⟨rfl, bq⟩
                  have Y2 : Hid (Below wx.heap.size wx y2) := Y1.out.trans (bq.mono Y1.out.size)
                  clear bq
                  try go_wp2_with fail
                  refine hK.out _ _ ⟨cell_step3 x0 Y2.out, cell_step3 x1 Y2.out, cell_step3 x2 Y2.out⟩ (fun hHeld => ?_)
                  clear hK K
                  try simp only [Act.put, List.setIfInBounds_toArray, List.set_cons_zero, List.set_cons_succ]
                  refine wpAnyH_take (i := 7) (oi := ?oibsy7) (v := .bool bB) ?hibsy7 (by kernel_rfl) (by kernel_rfl) (by kernel_rfl) ?hqbsy7 ?hybsy7 hHeld ?hrbsy7
                  case hibsy7 =>
                    simp only [List.getElem?_toArray, List.getElem?_cons_succ, List.getElem?_cons_zero]
                    rfl
                  case hqbsy7 => exact fun _ _ _ h => h
                  case hybsy7 => exact Or.inl ⟨by kernel_rfl, fun w hSw => by go_simp; first | done | exact hbB⟩
                  try simp only [Act.put, List.setIfInBounds_toArray, List.set_cons_zero, List.set_cons_succ]
                  refine wpAnyH_take (i := 8) (oi := ?oibsy8) (v := .bool bB) ?hibsy8 (by kernel_rfl) (by kernel_rfl) (by kernel_rfl) ?hqbsy8 ?hybsy8 hHeld ?hrbsy8
                  case hibsy8 =>
                    simp only [List.getElem?_toArray, List.getElem?_cons_succ, List.getElem?_cons_zero]
                    rfl
                  case hqbsy8 => exact fun _ _ _ h => h
                  case hybsy8 => exact Or.inl ⟨by kernel_rfl, fun w hSw => by go_simp⟩
                  try simp only [Act.put, List.setIfInBounds_toArray, List.set_cons_zero, List.set_cons_succ]
                  refine wpAnyH_ready (rs := [9]) (by kernel_rfl) (by simp) ?_
                  refine (AllReadyH.cons (o := ?oobsy9) ?hobsy9 (fun K hK => ?hkbsy9) AllReadyH.nil)
                  case hobsy9 =>
                    simp only [List.getElem?_toArray, List.getElem?_cons_succ, List.getElem?_cons_zero]
                    rfl
                  case hkbsy9 =>
                    have RR : y2.heap[w.heap.size]? = some (.cells #[.int .i64 0, .int .i64 0, .int .i64 0] 42 (0, 0)) := (Y2.out.block _ (by have := (Array.getElem?_eq_some_iff.1 RX.out).1; exact this)).trans RX.out
                    obtain ⟨⟨q0, q1, q2⟩, fr⟩ := threeC RR
                    have f0 := fr 0
                    have f1 := fr 1
                    have f2 := fr 2
                    have RS := threeS (.int .i64 k) (.int .i64 0) (.int .i64 xn) RR
                    obtain ⟨⟨r0, r1, r2⟩, -⟩ := threeC RS
                    have HBF : Hid (Below w.heap.size w (((y2.setCell ⟨w.heap.size, 0, none⟩ (.int .i64 k)).setCell ⟨w.heap.size, 1, none⟩ (.int .i64 0)).setCell ⟨w.heap.size, 2, none⟩ (.int .i64 xn))) := below_three (BX.out.trans (Y2.out.mono BX.out.size)) (Nat.le_refl _) _ _ _
                    clear RS RR fr
                    go_simp
                    try go_wp2_with fail
                    refine hK.out _ _ ⟨set3_cell hXw (cell_step3 x0 Y2.out) _ _ _, set3_cell hXw (cell_step3 x1 Y2.out) _ _ _, set3_cell hXw (cell_step3 x2 Y2.out) _ _ _⟩ (fun hHeld => ?_)
                    clear hK K
                    try simp only [Act.put, List.setIfInBounds_toArray, List.set_cons_zero, List.set_cons_succ]
                    refine wpAnyH_take (i := 10) (oi := ?oibsy10) (v := .bool bB) ?hibsy10 (by kernel_rfl) (by kernel_rfl) (by kernel_rfl) ?hqbsy10 ?hybsy10 hHeld ?hrbsy10
                    case hibsy10 =>
                      simp only [List.getElem?_toArray, List.getElem?_cons_succ, List.getElem?_cons_zero]
                      rfl
                    case hqbsy10 => exact fun _ _ _ h => h
                    case hybsy10 => exact Or.inl ⟨by kernel_rfl, fun w hSw => by go_simp⟩
                    try simp only [Act.put, List.setIfInBounds_toArray, List.set_cons_zero, List.set_cons_succ]
                    refine wpAnyH_done (by kernel_rfl) ?_ _
                    generalize (((y2.setCell ⟨w.heap.size, 0, none⟩ (.int .i64 k)).setCell ⟨w.heap.size, 1, none⟩ (.int .i64 0)).setCell ⟨w.heap.size, 2, none⟩ (.int .i64 xn)) = wf at *
                    go_wp2
                    refine bodyPost_ret (v := .tuple #[.agg #[.int .i64 k, .int .i64 0, .int .i64 xn], .bool bB]) (by simp [results, Tryd.results23, go_sem, r0, r1, r2]) rfl ?_
                    exact ⟨⟨k, 0, xn⟩, bB, rfl, HBF.out, HT.out, HF.out⟩
          by_cases h8e : k = 8
          · have HRB : Hid (∀ u : Stm, stmtOk u.k u.x u.y = true → stmtT u = toL s → u = ⟨k, 0, xn⟩) := fun u hu e => by
              have := HRA.out u hu e
              rwa [if_pos (by omega)] at this
            have h7 : ((k : Int) == 7) = false := by rw [beq_eq_false_iff_ne]; omega
            have h8 : ((k : Int) == 8) = true := by rw [beq_iff_eq]; omega
            clear h8e
            obtain ⟨wx, hwx⟩ : ∃ wx, w2.alloc (.cells #[.int .i64 k, .int .i64 0, .int .i64 xn] 42) = wx := ⟨_, rfl⟩
            have XR : wx.heap[w2.heap.size]? = some (.cells #[.int .i64 k, .int .i64 0, .int .i64 xn] 42 (0, 0)) := by rw [← hwx]; exact heap_alloc_new _ _
            have RX : Hid (wx.heap[w.heap.size]? = some (.cells #[.int .i64 0, .int .i64 0, .int .i64 0] 42 (0, 0))) := by
              show wx.heap[w.heap.size]? = _
              rw [← hwx, old_block (Array.getElem?_eq_some_iff.1 R1.out).1]
              exact R1.out
            have BX : Hid (Below w.heap.size w wx) := by rw [← hwx]; exact B1.out.alloc B1.out.size _
            have hXn : w.heap.size < w2.heap.size := (Array.getElem?_eq_some_iff.1 R1.out).1
            have HWX : Hid _ := hwx
            clear HRA R1 B1 hwx
            go_wp2_with fail
            rw [HWX.out]
            obtain ⟨Xb, hXb⟩ : ∃ Xb, w2.heap.size = Xb := ⟨_, rfl⟩
            simp only [hXb] at *
            clear HWX
            obtain ⟨⟨x0, x1, x2⟩, -⟩ := threeC XR
            have hXw : Xb ≠ w.heap.size := by omega
            clear XR
            cases hok : stmtOk (k : Int) 0 xn
            · have HF : Hid (∀ u : Stm, stmtOk u.k u.x u.y = true → stmtT u ≠ toL s) := fun u hu e => by
                have h9 := HRB.out u hu e
                subst h9
                exact absurd (hok.symm.trans hu) (by decide)
              clear HRB
              refine wp_region_held_drew (S := fun w' => w'.cell? ⟨Xb, 0, none⟩ = some (.int .i64 k) ∧ w'.cell? ⟨Xb, 1, none⟩ = some (.int .i64 0) ∧ w'.cell? ⟨Xb, 2, none⟩ = some (.int .i64 xn)) (by kernel_rfl) ⟨x0, x1, x2⟩ (fun hHeld => ?_)
              refine wpAnyH_take (i := 0) (oi := ?oiben0) (v := .agg #[.int .i64 k, .int .i64 0, .int .i64 xn]) ?hiben0 (by kernel_rfl) (by kernel_rfl) (by kernel_rfl) ?hqben0 ?hyben0 hHeld ?hrben0
              case hiben0 =>
                simp only [List.getElem?_toArray, List.getElem?_cons_succ, List.getElem?_cons_zero]
                rfl
              case hqben0 => exact fun _ _ _ h => h
              case hyben0 => exact Or.inl ⟨by kernel_rfl, fun w hSw => by obtain ⟨s1, s2, s3⟩ := hSw; go_simp⟩
              try simp only [Act.put, List.setIfInBounds_toArray, List.set_cons_zero, List.set_cons_succ]
              refine wpAnyH_take (i := 1) (oi := ?oiben1) (v := .agg #[.int .i64 k, .int .i64 0, .int .i64 xn]) ?hiben1 (by kernel_rfl) (by kernel_rfl) (by kernel_rfl) ?hqben1 ?hyben1 hHeld ?hrben1
              case hiben1 =>
                simp only [List.getElem?_toArray, List.getElem?_cons_succ, List.getElem?_cons_zero]
                rfl
              case hqben1 => exact fun _ _ _ h => h
              case hyben1 => exact Or.inl ⟨by kernel_rfl, fun w hSw => by obtain ⟨s1, s2, s3⟩ := hSw; go_simp⟩
              try simp only [Act.put, List.setIfInBounds_toArray, List.set_cons_zero, List.set_cons_succ]
              refine wpAnyH_ready (rs := [2]) (by kernel_rfl) (by simp) ?_
              refine (AllReadyH.cons (o := ?ooben2) ?hoben2 (fun K hK => ?hkben2) AllReadyH.nil)
              case hoben2 =>
                simp only [List.getElem?_toArray, List.getElem?_cons_succ, List.getElem?_cons_zero]
                rfl
              case hkben2 =>
                go_simp
                go_at_call 38
                refine (specStmtOk (k : Int) 0 xn _).mono ?_
                rintro e y1 ⟨rfl, bq⟩
                rw [hok]
                have Y1 : Hid (Below wx.heap.size wx y1) := Below.trans (Below.drew (Below.refl _ _)) bq
                clear bq
                try go_wp2_with fail
                refine hK.out _ _ ⟨cell_step3 x0 Y1.out, cell_step3 x1 Y1.out, cell_step3 x2 Y1.out⟩ (fun hHeld => ?_)
                clear hK K
                try simp only [Act.put, List.setIfInBounds_toArray, List.set_cons_zero, List.set_cons_succ]
                refine wpAnyH_take (i := 3) (oi := ?oiben3) (v := .bool false) ?hiben3 (by kernel_rfl) (by kernel_rfl) (by kernel_rfl) ?hqben3 ?hyben3 hHeld ?hrben3
                case hiben3 =>
                  simp only [List.getElem?_toArray, List.getElem?_cons_succ, List.getElem?_cons_zero]
                  rfl
                case hqben3 => exact fun _ _ _ h => h
                case hyben3 => exact Or.inl ⟨by kernel_rfl, fun w hSw => by go_simp⟩
                try simp only [Act.put, List.setIfInBounds_toArray, List.set_cons_zero, List.set_cons_succ]
                refine wpAnyH_take (i := 4) (oi := ?oiben4) (v := undef) ?hiben4 (by kernel_rfl) (by kernel_rfl) (by kernel_rfl) ?hqben4 ?hyben4 hHeld ?hrben4
                case hiben4 =>
                  simp only [List.getElem?_toArray, List.getElem?_cons_succ, List.getElem?_cons_zero]
                  rfl
                case hqben4 => exact fun _ _ _ h => h
                case hyben4 => exact Or.inr ⟨by kernel_rfl, rfl⟩
                try simp only [Act.put, List.setIfInBounds_toArray, List.set_cons_zero, List.set_cons_succ]
                refine wpAnyH_take (i := 5) (oi := ?oiben5) (v := undef) ?hiben5 (by kernel_rfl) (by kernel_rfl) (by kernel_rfl) ?hqben5 ?hyben5 hHeld ?hrben5
                case hiben5 =>
                  simp only [List.getElem?_toArray, List.getElem?_cons_succ, List.getElem?_cons_zero]
                  rfl
                case hqben5 => exact fun _ _ _ h => h
                case hyben5 => exact Or.inr ⟨by kernel_rfl, rfl⟩
                try simp only [Act.put, List.setIfInBounds_toArray, List.set_cons_zero, List.set_cons_succ]
                refine wpAnyH_take (i := 6) (oi := ?oiben6) (v := undef) ?hiben6 (by kernel_rfl) (by kernel_rfl) (by kernel_rfl) ?hqben6 ?hyben6 hHeld ?hrben6
                case hiben6 =>
                  simp only [List.getElem?_toArray, List.getElem?_cons_succ, List.getElem?_cons_zero]
                  rfl
                case hqben6 => exact fun _ _ _ h => h
                case hyben6 => exact Or.inr ⟨by kernel_rfl, rfl⟩
                try simp only [Act.put, List.setIfInBounds_toArray, List.set_cons_zero, List.set_cons_succ]
                refine wpAnyH_take (i := 7) (oi := ?oiben7) (v := undef) ?hiben7 (by kernel_rfl) (by kernel_rfl) (by kernel_rfl) ?hqben7 ?hyben7 hHeld ?hrben7
                case hiben7 =>
                  simp only [List.getElem?_toArray, List.getElem?_cons_succ, List.getElem?_cons_zero]
                  rfl
                case hqben7 => exact fun _ _ _ h => h
                case hyben7 => exact Or.inr ⟨by kernel_rfl, rfl⟩
                try simp only [Act.put, List.setIfInBounds_toArray, List.set_cons_zero, List.set_cons_succ]
                refine wpAnyH_take (i := 8) (oi := ?oiben8) (v := .bool false) ?hiben8 (by kernel_rfl) (by kernel_rfl) (by kernel_rfl) ?hqben8 ?hyben8 hHeld ?hrben8
                case hiben8 =>
                  simp only [List.getElem?_toArray, List.getElem?_cons_succ, List.getElem?_cons_zero]
                  rfl
                case hqben8 => exact fun _ _ _ h => h
                case hyben8 => exact Or.inl ⟨by kernel_rfl, fun w hSw => by go_simp⟩
                try simp only [Act.put, List.setIfInBounds_toArray, List.set_cons_zero, List.set_cons_succ]
                refine wpAnyH_ready (rs := [9]) (by kernel_rfl) (by simp) ?_
                refine (AllReadyH.cons (o := ?ooben9) ?hoben9 (fun K hK => ?hkben9) AllReadyH.nil)
                case hoben9 =>
                  simp only [List.getElem?_toArray, List.getElem?_cons_succ, List.getElem?_cons_zero]
                  rfl
                case hkben9 =>
                  have RR : y1.heap[w.heap.size]? = some (.cells #[.int .i64 0, .int .i64 0, .int .i64 0] 42 (0, 0)) := (Y1.out.block _ (by have := (Array.getElem?_eq_some_iff.1 RX.out).1; exact this)).trans RX.out
                  obtain ⟨⟨q0, q1, q2⟩, fr⟩ := threeC RR
                  have f0 := fr 0
                  have f1 := fr 1
                  have f2 := fr 2
                  have RS := threeS (.int .i64 k) (.int .i64 0) (.int .i64 xn) RR
                  obtain ⟨⟨r0, r1, r2⟩, -⟩ := threeC RS
                  have HBF : Hid (Below w.heap.size w (((y1.setCell ⟨w.heap.size, 0, none⟩ (.int .i64 k)).setCell ⟨w.heap.size, 1, none⟩ (.int .i64 0)).setCell ⟨w.heap.size, 2, none⟩ (.int .i64 xn))) := below_three (BX.out.trans (Y1.out.mono BX.out.size)) (Nat.le_refl _) _ _ _
                  clear RS RR fr
                  go_simp
                  try go_wp2_with fail
                  refine hK.out _ _ ⟨set3_cell hXw (cell_step3 x0 Y1.out) _ _ _, set3_cell hXw (cell_step3 x1 Y1.out) _ _ _, set3_cell hXw (cell_step3 x2 Y1.out) _ _ _⟩ (fun hHeld => ?_)
                  clear hK K
                  try simp only [Act.put, List.setIfInBounds_toArray, List.set_cons_zero, List.set_cons_succ]
                  refine wpAnyH_take (i := 10) (oi := ?oiben10) (v := .bool false) ?hiben10 (by kernel_rfl) (by kernel_rfl) (by kernel_rfl) ?hqben10 ?hyben10 hHeld ?hrben10
                  case hiben10 =>
                    simp only [List.getElem?_toArray, List.getElem?_cons_succ, List.getElem?_cons_zero]
                    rfl
                  case hqben10 => exact fun _ _ _ h => h
                  case hyben10 => exact Or.inl ⟨by kernel_rfl, fun w hSw => by go_simp⟩
                  try simp only [Act.put, List.setIfInBounds_toArray, List.set_cons_zero, List.set_cons_succ]
                  refine wpAnyH_done (by kernel_rfl) ?_ _
                  generalize (((y1.setCell ⟨w.heap.size, 0, none⟩ (.int .i64 k)).setCell ⟨w.heap.size, 1, none⟩ (.int .i64 0)).setCell ⟨w.heap.size, 2, none⟩ (.int .i64 xn)) = wf at *
                  go_wp2
                  refine bodyPost_ret (v := .tuple #[.agg #[.int .i64 k, .int .i64 0, .int .i64 xn], .bool false]) (by simp [results, Tryd.results23, go_sem, r0, r1, r2]) rfl ?_
                  exact ⟨⟨k, 0, xn⟩, false, rfl, HBF.out, fun h => absurd h (by decide), fun _ => HF.out⟩
            · obtain ⟨bB, hbB⟩ : ∃ bB, (stmtT ⟨k, 0, xn⟩ == s.toList) = bB := ⟨_, rfl⟩
              have HT : Hid (bB = true → stmtOk (k : Int) 0 xn = true ∧ stmtT ⟨k, 0, xn⟩ = toL s) := fun h => by
                subst h
                refine ⟨hok, ?_⟩
                have := eq_of_beq hbB
                rw [ByteArray.toList_eq] at this
                exact this
              have HF : Hid (bB = false → ∀ u : Stm, stmtOk u.k u.x u.y = true → stmtT u ≠ toL s) := fun h u hu e => by
                subst h
                have h9 := HRB.out u hu e
                subst h9
                refine absurd ?_ (beq_eq_false_iff_ne.1 hbB)
                rw [ByteArray.toList_eq]
                exact e
              clear HRB
              refine wp_region_held_drew (S := fun w' => w'.cell? ⟨Xb, 0, none⟩ = some (.int .i64 k) ∧ w'.cell? ⟨Xb, 1, none⟩ = some (.int .i64 0) ∧ w'.cell? ⟨Xb, 2, none⟩ = some (.int .i64 xn)) (by kernel_rfl) ⟨x0, x1, x2⟩ (fun hHeld => ?_)
              refine wpAnyH_take (i := 0) (oi := ?oibey0) (v := .agg #[.int .i64 k, .int .i64 0, .int .i64 xn]) ?hibey0 (by kernel_rfl) (by kernel_rfl) (by kernel_rfl) ?hqbey0 ?hybey0 hHeld ?hrbey0
              case hibey0 =>
                simp only [List.getElem?_toArray, List.getElem?_cons_succ, List.getElem?_cons_zero]
                rfl
              case hqbey0 => exact fun _ _ _ h => h
              case hybey0 => exact Or.inl ⟨by kernel_rfl, fun w hSw => by obtain ⟨s1, s2, s3⟩ := hSw; go_simp⟩
              try simp only [Act.put, List.setIfInBounds_toArray, List.set_cons_zero, List.set_cons_succ]
              refine wpAnyH_take (i := 1) (oi := ?oibey1) (v := .agg #[.int .i64 k, .int .i64 0, .int .i64 xn]) ?hibey1 (by kernel_rfl) (by kernel_rfl) (by kernel_rfl) ?hqbey1 ?hybey1 hHeld ?hrbey1
              case hibey1 =>
                simp only [List.getElem?_toArray, List.getElem?_cons_succ, List.getElem?_cons_zero]
                rfl
              case hqbey1 => exact fun _ _ _ h => h
              case hybey1 => exact Or.inl ⟨by kernel_rfl, fun w hSw => by obtain ⟨s1, s2, s3⟩ := hSw; go_simp⟩
              try simp only [Act.put, List.setIfInBounds_toArray, List.set_cons_zero, List.set_cons_succ]
              refine wpAnyH_ready (rs := [2]) (by kernel_rfl) (by simp) ?_
              refine (AllReadyH.cons (o := ?oobey2) ?hobey2 (fun K hK => ?hkbey2) AllReadyH.nil)
              case hobey2 =>
                simp only [List.getElem?_toArray, List.getElem?_cons_succ, List.getElem?_cons_zero]
                rfl
              case hkbey2 =>
                go_simp
                go_at_call 38
                refine (specStmtOk (k : Int) 0 xn _).mono ?_
                rintro e y1 ⟨rfl, bq⟩
                rw [hok]
                have Y1 : Hid (Below wx.heap.size wx y1) := Below.trans (Below.drew (Below.refl _ _)) bq
                clear bq
                try go_wp2_with fail
                refine hK.out _ _ ⟨cell_step3 x0 Y1.out, cell_step3 x1 Y1.out, cell_step3 x2 Y1.out⟩ (fun hHeld => ?_)
                clear hK K
                try simp only [Act.put, List.setIfInBounds_toArray, List.set_cons_zero, List.set_cons_succ]
                refine wpAnyH_take (i := 3) (oi := ?oibey3) (v := .bool true) ?hibey3 (by kernel_rfl) (by kernel_rfl) (by kernel_rfl) ?hqbey3 ?hybey3 hHeld ?hrbey3
                case hibey3 =>
                  simp only [List.getElem?_toArray, List.getElem?_cons_succ, List.getElem?_cons_zero]
                  rfl
                case hqbey3 => exact fun _ _ _ h => h
                case hybey3 => exact Or.inl ⟨by kernel_rfl, fun w hSw => by go_simp⟩
                try simp only [Act.put, List.setIfInBounds_toArray, List.set_cons_zero, List.set_cons_succ]
                refine wpAnyH_take (i := 4) (oi := ?oibey4) (v := .agg #[.int .i64 k, .int .i64 0, .int .i64 xn]) ?hibey4 (by kernel_rfl) (by kernel_rfl) (by kernel_rfl) ?hqbey4 ?hybey4 hHeld ?hrbey4
                case hibey4 =>
                  simp only [List.getElem?_toArray, List.getElem?_cons_succ, List.getElem?_cons_zero]
                  rfl
                case hqbey4 => exact fun _ _ _ h => h
                case hybey4 => exact Or.inl ⟨by kernel_rfl, fun w hSw => by obtain ⟨s1, s2, s3⟩ := hSw; go_simp⟩
                try simp only [Act.put, List.setIfInBounds_toArray, List.set_cons_zero, List.set_cons_succ]
                refine wpAnyH_take (i := 6) (oi := ?oibey6) (v := .string s) ?hibey6 (by kernel_rfl) (by kernel_rfl) (by kernel_rfl) ?hqbey6 ?hybey6 hHeld ?hrbey6
                case hibey6 =>
                  simp only [List.getElem?_toArray, List.getElem?_cons_succ, List.getElem?_cons_zero]
                  rfl
                case hqbey6 => exact fun _ _ _ h => h
                case hybey6 => exact Or.inl ⟨by kernel_rfl, fun w hSw => by go_simp⟩
                try simp only [Act.put, List.setIfInBounds_toArray, List.set_cons_zero, List.set_cons_succ]
                refine wpAnyH_ready (rs := [5]) (by kernel_rfl) (by simp) ?_
                refine (AllReadyH.cons (o := ?oobey5) ?hobey5 (fun K hK => ?hkbey5) AllReadyH.nil)
                case hobey5 =>
                  simp only [List.getElem?_toArray, List.getElem?_cons_succ, List.getElem?_cons_zero]
                  rfl
                case hkbey5 =>
                  go_simp
                  go_at_call 25
                  refine (l13Stmt ⟨k, 0, xn⟩ _ hok).mono ?_
                  rintro e y2 ⟨rfl, bq⟩
                  have Y2 : Hid (Below wx.heap.size wx y2) := Y1.out.trans (bq.mono Y1.out.size)
                  clear bq
                  try go_wp2_with fail
                  refine hK.out _ _ ⟨cell_step3 x0 Y2.out, cell_step3 x1 Y2.out, cell_step3 x2 Y2.out⟩ (fun hHeld => ?_)
                  clear hK K
                  try simp only [Act.put, List.setIfInBounds_toArray, List.set_cons_zero, List.set_cons_succ]
                  refine wpAnyH_take (i := 7) (oi := ?oibey7) (v := .bool bB) ?hibey7 (by kernel_rfl) (by kernel_rfl) (by kernel_rfl) ?hqbey7 ?hybey7 hHeld ?hrbey7
                  case hibey7 =>
                    simp only [List.getElem?_toArray, List.getElem?_cons_succ, List.getElem?_cons_zero]
                    rfl
                  case hqbey7 => exact fun _ _ _ h => h
                  case hybey7 => exact Or.inl ⟨by kernel_rfl, fun w hSw => by go_simp; first | done | exact hbB⟩
                  try simp only [Act.put, List.setIfInBounds_toArray, List.set_cons_zero, List.set_cons_succ]
                  refine wpAnyH_take (i := 8) (oi := ?oibey8) (v := .bool bB) ?hibey8 (by kernel_rfl) (by kernel_rfl) (by kernel_rfl) ?hqbey8 ?hybey8 hHeld ?hrbey8
                  case hibey8 =>
                    simp only [List.getElem?_toArray, List.getElem?_cons_succ, List.getElem?_cons_zero]
                    rfl
                  case hqbey8 => exact fun _ _ _ h => h
                  case hybey8 => exact Or.inl ⟨by kernel_rfl, fun w hSw => by go_simp⟩
                  try simp only [Act.put, List.setIfInBounds_toArray, List.set_cons_zero, List.set_cons_succ]
                  refine wpAnyH_ready (rs := [9]) (by kernel_rfl) (by simp) ?_
                  refine (AllReadyH.cons (o := ?oobey9) ?hobey9 (fun K hK => ?hkbey9) AllReadyH.nil)
                  case hobey9 =>
                    simp only [List.getElem?_toArray, List.getElem?_cons_succ, List.getElem?_cons_zero]
                    rfl
                  case hkbey9 =>
                    have RR : y2.heap[w.heap.size]? = some (.cells #[.int .i64 0, .int .i64 0, .int .i64 0] 42 (0, 0)) := (Y2.out.block _ (by have := (Array.getElem?_eq_some_iff.1 RX.out).1; exact this)).trans RX.out
                    obtain ⟨⟨q0, q1, q2⟩, fr⟩ := threeC RR
                    have f0 := fr 0
                    have f1 := fr 1
                    have f2 := fr 2
                    have RS := threeS (.int .i64 k) (.int .i64 0) (.int .i64 xn) RR
                    obtain ⟨⟨r0, r1, r2⟩, -⟩ := threeC RS
                    have HBF : Hid (Below w.heap.size w (((y2.setCell ⟨w.heap.size, 0, none⟩ (.int .i64 k)).setCell ⟨w.heap.size, 1, none⟩ (.int .i64 0)).setCell ⟨w.heap.size, 2, none⟩ (.int .i64 xn))) := below_three (BX.out.trans (Y2.out.mono BX.out.size)) (Nat.le_refl _) _ _ _
                    clear RS RR fr
                    go_simp
                    try go_wp2_with fail
                    refine hK.out _ _ ⟨set3_cell hXw (cell_step3 x0 Y2.out) _ _ _, set3_cell hXw (cell_step3 x1 Y2.out) _ _ _, set3_cell hXw (cell_step3 x2 Y2.out) _ _ _⟩ (fun hHeld => ?_)
                    clear hK K
                    try simp only [Act.put, List.setIfInBounds_toArray, List.set_cons_zero, List.set_cons_succ]
                    refine wpAnyH_take (i := 10) (oi := ?oibey10) (v := .bool bB) ?hibey10 (by kernel_rfl) (by kernel_rfl) (by kernel_rfl) ?hqbey10 ?hybey10 hHeld ?hrbey10
                    case hibey10 =>
                      simp only [List.getElem?_toArray, List.getElem?_cons_succ, List.getElem?_cons_zero]
                      rfl
                    case hqbey10 => exact fun _ _ _ h => h
                    case hybey10 => exact Or.inl ⟨by kernel_rfl, fun w hSw => by go_simp⟩
                    try simp only [Act.put, List.setIfInBounds_toArray, List.set_cons_zero, List.set_cons_succ]
                    refine wpAnyH_done (by kernel_rfl) ?_ _
                    generalize (((y2.setCell ⟨w.heap.size, 0, none⟩ (.int .i64 k)).setCell ⟨w.heap.size, 1, none⟩ (.int .i64 0)).setCell ⟨w.heap.size, 2, none⟩ (.int .i64 xn)) = wf at *
                    go_wp2
                    refine bodyPost_ret (v := .tuple #[.agg #[.int .i64 k, .int .i64 0, .int .i64 xn], .bool bB]) (by simp [results, Tryd.results23, go_sem, r0, r1, r2]) rfl ?_
                    exact ⟨⟨k, 0, xn⟩, bB, rfl, HBF.out, HT.out, HF.out⟩
          have HRB : Hid (∀ u : Stm, stmtOk u.k u.x u.y = true → stmtT u = toL s → u = ⟨k, xn, 0⟩) := fun u hu e => by
            have := HRA.out u hu e
            rwa [if_neg (by omega)] at this
          have h7 : ((k : Int) == 7) = false := by rw [beq_eq_false_iff_ne]; omega
          have h8 : ((k : Int) == 8) = false := by rw [beq_eq_false_iff_ne]; omega
          obtain ⟨wx, hwx⟩ : ∃ wx, w2.alloc (.cells #[.int .i64 k, .int .i64 xn, .int .i64 0] 42) = wx := ⟨_, rfl⟩
          have XR : wx.heap[w2.heap.size]? = some (.cells #[.int .i64 k, .int .i64 xn, .int .i64 0] 42 (0, 0)) := by rw [← hwx]; exact heap_alloc_new _ _
          have RX : Hid (wx.heap[w.heap.size]? = some (.cells #[.int .i64 0, .int .i64 0, .int .i64 0] 42 (0, 0))) := by
            show wx.heap[w.heap.size]? = _
            rw [← hwx, old_block (Array.getElem?_eq_some_iff.1 R1.out).1]
            exact R1.out
          have BX : Hid (Below w.heap.size w wx) := by rw [← hwx]; exact B1.out.alloc B1.out.size _
          have hXn : w.heap.size < w2.heap.size := (Array.getElem?_eq_some_iff.1 R1.out).1
          have HWX : Hid _ := hwx
          clear HRA R1 B1 hwx
          go_wp2_with fail
          rw [HWX.out]
          obtain ⟨Xb, hXb⟩ : ∃ Xb, w2.heap.size = Xb := ⟨_, rfl⟩
          simp only [hXb] at *
          clear HWX
          obtain ⟨⟨x0, x1, x2⟩, -⟩ := threeC XR
          have hXw : Xb ≠ w.heap.size := by omega
          clear XR
          cases hok : stmtOk (k : Int) xn 0
          · have HF : Hid (∀ u : Stm, stmtOk u.k u.x u.y = true → stmtT u ≠ toL s) := fun u hu e => by
              have h9 := HRB.out u hu e
              subst h9
              exact absurd (hok.symm.trans hu) (by decide)
            clear HRB
            refine wp_region_held_drew (S := fun w' => w'.cell? ⟨Xb, 0, none⟩ = some (.int .i64 k) ∧ w'.cell? ⟨Xb, 1, none⟩ = some (.int .i64 xn) ∧ w'.cell? ⟨Xb, 2, none⟩ = some (.int .i64 0)) (by kernel_rfl) ⟨x0, x1, x2⟩ (fun hHeld => ?_)
            refine wpAnyH_take (i := 0) (oi := ?oibon0) (v := .agg #[.int .i64 k, .int .i64 xn, .int .i64 0]) ?hibon0 (by kernel_rfl) (by kernel_rfl) (by kernel_rfl) ?hqbon0 ?hybon0 hHeld ?hrbon0
            case hibon0 =>
              simp only [List.getElem?_toArray, List.getElem?_cons_succ, List.getElem?_cons_zero]
              rfl
            case hqbon0 => exact fun _ _ _ h => h
            case hybon0 => exact Or.inl ⟨by kernel_rfl, fun w hSw => by obtain ⟨s1, s2, s3⟩ := hSw; go_simp⟩
            try simp only [Act.put, List.setIfInBounds_toArray, List.set_cons_zero, List.set_cons_succ]
            refine wpAnyH_take (i := 1) (oi := ?oibon1) (v := .agg #[.int .i64 k, .int .i64 xn, .int .i64 0]) ?hibon1 (by kernel_rfl) (by kernel_rfl) (by kernel_rfl) ?hqbon1 ?hybon1 hHeld ?hrbon1
            case hibon1 =>
              simp only [List.getElem?_toArray, List.getElem?_cons_succ, List.getElem?_cons_zero]
              rfl
            case hqbon1 => exact fun _ _ _ h => h
            case hybon1 => exact Or.inl ⟨by kernel_rfl, fun w hSw => by obtain ⟨s1, s2, s3⟩ := hSw; go_simp⟩
            try simp only [Act.put, List.setIfInBounds_toArray, List.set_cons_zero, List.set_cons_succ]
            refine wpAnyH_ready (rs := [2]) (by kernel_rfl) (by simp) ?_
            refine (AllReadyH.cons (o := ?oobon2) ?hobon2 (fun K hK => ?hkbon2) AllReadyH.nil)
            case hobon2 =>
              simp only [List.getElem?_toArray, List.getElem?_cons_succ, List.getElem?_cons_zero]
              rfl
            case hkbon2 =>
              go_simp
              go_at_call 38
              refine (specStmtOk (k : Int) xn 0 _).mono ?_
              rintro e y1 ⟨rfl, bq⟩
              rw [hok]
              have Y1 : Hid (Below wx.heap.size wx y1) := Below.trans (Below.drew (Below.refl _ _)) bq
              clear bq
              try go_wp2_with fail
              refine hK.out _ _ ⟨cell_step3 x0 Y1.out, cell_step3 x1 Y1.out, cell_step3 x2 Y1.out⟩ (fun hHeld => ?_)
              clear hK K
              try simp only [Act.put, List.setIfInBounds_toArray, List.set_cons_zero, List.set_cons_succ]
              refine wpAnyH_take (i := 3) (oi := ?oibon3) (v := .bool false) ?hibon3 (by kernel_rfl) (by kernel_rfl) (by kernel_rfl) ?hqbon3 ?hybon3 hHeld ?hrbon3
              case hibon3 =>
                simp only [List.getElem?_toArray, List.getElem?_cons_succ, List.getElem?_cons_zero]
                rfl
              case hqbon3 => exact fun _ _ _ h => h
              case hybon3 => exact Or.inl ⟨by kernel_rfl, fun w hSw => by go_simp⟩
              try simp only [Act.put, List.setIfInBounds_toArray, List.set_cons_zero, List.set_cons_succ]
              refine wpAnyH_take (i := 4) (oi := ?oibon4) (v := undef) ?hibon4 (by kernel_rfl) (by kernel_rfl) (by kernel_rfl) ?hqbon4 ?hybon4 hHeld ?hrbon4
              case hibon4 =>
                simp only [List.getElem?_toArray, List.getElem?_cons_succ, List.getElem?_cons_zero]
                rfl
              case hqbon4 => exact fun _ _ _ h => h
              case hybon4 => exact Or.inr ⟨by kernel_rfl, rfl⟩
              try simp only [Act.put, List.setIfInBounds_toArray, List.set_cons_zero, List.set_cons_succ]
              refine wpAnyH_take (i := 5) (oi := ?oibon5) (v := undef) ?hibon5 (by kernel_rfl) (by kernel_rfl) (by kernel_rfl) ?hqbon5 ?hybon5 hHeld ?hrbon5
              case hibon5 =>
                simp only [List.getElem?_toArray, List.getElem?_cons_succ, List.getElem?_cons_zero]
                rfl
              case hqbon5 => exact fun _ _ _ h => h
              case hybon5 => exact Or.inr ⟨by kernel_rfl, rfl⟩
              try simp only [Act.put, List.setIfInBounds_toArray, List.set_cons_zero, List.set_cons_succ]
              refine wpAnyH_take (i := 6) (oi := ?oibon6) (v := undef) ?hibon6 (by kernel_rfl) (by kernel_rfl) (by kernel_rfl) ?hqbon6 ?hybon6 hHeld ?hrbon6
              case hibon6 =>
                simp only [List.getElem?_toArray, List.getElem?_cons_succ, List.getElem?_cons_zero]
                rfl
              case hqbon6 => exact fun _ _ _ h => h
              case hybon6 => exact Or.inr ⟨by kernel_rfl, rfl⟩
              try simp only [Act.put, List.setIfInBounds_toArray, List.set_cons_zero, List.set_cons_succ]
              refine wpAnyH_take (i := 7) (oi := ?oibon7) (v := undef) ?hibon7 (by kernel_rfl) (by kernel_rfl) (by kernel_rfl) ?hqbon7 ?hybon7 hHeld ?hrbon7
              case hibon7 =>
                simp only [List.getElem?_toArray, List.getElem?_cons_succ, List.getElem?_cons_zero]
                rfl
              case hqbon7 => exact fun _ _ _ h => h
              case hybon7 => exact Or.inr ⟨by kernel_rfl, rfl⟩
              try simp only [Act.put, List.setIfInBounds_toArray, List.set_cons_zero, List.set_cons_succ]
              refine wpAnyH_take (i := 8) (oi := ?oibon8) (v := .bool false) ?hibon8 (by kernel_rfl) (by kernel_rfl) (by kernel_rfl) ?hqbon8 ?hybon8 hHeld ?hrbon8
              case hibon8 =>
                simp only [List.getElem?_toArray, List.getElem?_cons_succ, List.getElem?_cons_zero]
                rfl
              case hqbon8 => exact fun _ _ _ h => h
              case hybon8 => exact Or.inl ⟨by kernel_rfl, fun w hSw => by go_simp⟩
              try simp only [Act.put, List.setIfInBounds_toArray, List.set_cons_zero, List.set_cons_succ]
              refine wpAnyH_ready (rs := [9]) (by kernel_rfl) (by simp) ?_
              refine (AllReadyH.cons (o := ?oobon9) ?hobon9 (fun K hK => ?hkbon9) AllReadyH.nil)
              case hobon9 =>
                simp only [List.getElem?_toArray, List.getElem?_cons_succ, List.getElem?_cons_zero]
                rfl
              case hkbon9 =>
                have RR : y1.heap[w.heap.size]? = some (.cells #[.int .i64 0, .int .i64 0, .int .i64 0] 42 (0, 0)) := (Y1.out.block _ (by have := (Array.getElem?_eq_some_iff.1 RX.out).1; exact this)).trans RX.out
                obtain ⟨⟨q0, q1, q2⟩, fr⟩ := threeC RR
                have f0 := fr 0
                have f1 := fr 1
                have f2 := fr 2
                have RS := threeS (.int .i64 k) (.int .i64 xn) (.int .i64 0) RR
                obtain ⟨⟨r0, r1, r2⟩, -⟩ := threeC RS
                have HBF : Hid (Below w.heap.size w (((y1.setCell ⟨w.heap.size, 0, none⟩ (.int .i64 k)).setCell ⟨w.heap.size, 1, none⟩ (.int .i64 xn)).setCell ⟨w.heap.size, 2, none⟩ (.int .i64 0))) := below_three (BX.out.trans (Y1.out.mono BX.out.size)) (Nat.le_refl _) _ _ _
                clear RS RR fr
                go_simp
                try go_wp2_with fail
                refine hK.out _ _ ⟨set3_cell hXw (cell_step3 x0 Y1.out) _ _ _, set3_cell hXw (cell_step3 x1 Y1.out) _ _ _, set3_cell hXw (cell_step3 x2 Y1.out) _ _ _⟩ (fun hHeld => ?_)
                clear hK K
                try simp only [Act.put, List.setIfInBounds_toArray, List.set_cons_zero, List.set_cons_succ]
                refine wpAnyH_take (i := 10) (oi := ?oibon10) (v := .bool false) ?hibon10 (by kernel_rfl) (by kernel_rfl) (by kernel_rfl) ?hqbon10 ?hybon10 hHeld ?hrbon10
                case hibon10 =>
                  simp only [List.getElem?_toArray, List.getElem?_cons_succ, List.getElem?_cons_zero]
                  rfl
                case hqbon10 => exact fun _ _ _ h => h
                case hybon10 => exact Or.inl ⟨by kernel_rfl, fun w hSw => by go_simp⟩
                try simp only [Act.put, List.setIfInBounds_toArray, List.set_cons_zero, List.set_cons_succ]
                refine wpAnyH_done (by kernel_rfl) ?_ _
                generalize (((y1.setCell ⟨w.heap.size, 0, none⟩ (.int .i64 k)).setCell ⟨w.heap.size, 1, none⟩ (.int .i64 xn)).setCell ⟨w.heap.size, 2, none⟩ (.int .i64 0)) = wf at *
                go_wp2
                refine bodyPost_ret (v := .tuple #[.agg #[.int .i64 k, .int .i64 xn, .int .i64 0], .bool false]) (by simp [results, Tryd.results23, go_sem, r0, r1, r2]) rfl ?_
                exact ⟨⟨k, xn, 0⟩, false, rfl, HBF.out, fun h => absurd h (by decide), fun _ => HF.out⟩
          · obtain ⟨bB, hbB⟩ : ∃ bB, (stmtT ⟨k, xn, 0⟩ == s.toList) = bB := ⟨_, rfl⟩
            have HT : Hid (bB = true → stmtOk (k : Int) xn 0 = true ∧ stmtT ⟨k, xn, 0⟩ = toL s) := fun h => by
              subst h
              refine ⟨hok, ?_⟩
              have := eq_of_beq hbB
              rw [ByteArray.toList_eq] at this
              exact this
            have HF : Hid (bB = false → ∀ u : Stm, stmtOk u.k u.x u.y = true → stmtT u ≠ toL s) := fun h u hu e => by
              subst h
              have h9 := HRB.out u hu e
              subst h9
              refine absurd ?_ (beq_eq_false_iff_ne.1 hbB)
              rw [ByteArray.toList_eq]
              exact e
            clear HRB
            refine wp_region_held_drew (S := fun w' => w'.cell? ⟨Xb, 0, none⟩ = some (.int .i64 k) ∧ w'.cell? ⟨Xb, 1, none⟩ = some (.int .i64 xn) ∧ w'.cell? ⟨Xb, 2, none⟩ = some (.int .i64 0)) (by kernel_rfl) ⟨x0, x1, x2⟩ (fun hHeld => ?_)
            refine wpAnyH_take (i := 0) (oi := ?oiboy0) (v := .agg #[.int .i64 k, .int .i64 xn, .int .i64 0]) ?hiboy0 (by kernel_rfl) (by kernel_rfl) (by kernel_rfl) ?hqboy0 ?hyboy0 hHeld ?hrboy0
            case hiboy0 =>
              simp only [List.getElem?_toArray, List.getElem?_cons_succ, List.getElem?_cons_zero]
              rfl
            case hqboy0 => exact fun _ _ _ h => h
            case hyboy0 => exact Or.inl ⟨by kernel_rfl, fun w hSw => by obtain ⟨s1, s2, s3⟩ := hSw; go_simp⟩
            try simp only [Act.put, List.setIfInBounds_toArray, List.set_cons_zero, List.set_cons_succ]
            refine wpAnyH_take (i := 1) (oi := ?oiboy1) (v := .agg #[.int .i64 k, .int .i64 xn, .int .i64 0]) ?hiboy1 (by kernel_rfl) (by kernel_rfl) (by kernel_rfl) ?hqboy1 ?hyboy1 hHeld ?hrboy1
            case hiboy1 =>
              simp only [List.getElem?_toArray, List.getElem?_cons_succ, List.getElem?_cons_zero]
              rfl
            case hqboy1 => exact fun _ _ _ h => h
            case hyboy1 => exact Or.inl ⟨by kernel_rfl, fun w hSw => by obtain ⟨s1, s2, s3⟩ := hSw; go_simp⟩
            try simp only [Act.put, List.setIfInBounds_toArray, List.set_cons_zero, List.set_cons_succ]
            refine wpAnyH_ready (rs := [2]) (by kernel_rfl) (by simp) ?_
            refine (AllReadyH.cons (o := ?ooboy2) ?hoboy2 (fun K hK => ?hkboy2) AllReadyH.nil)
            case hoboy2 =>
              simp only [List.getElem?_toArray, List.getElem?_cons_succ, List.getElem?_cons_zero]
              rfl
            case hkboy2 =>
              go_simp
              go_at_call 38
              refine (specStmtOk (k : Int) xn 0 _).mono ?_
              rintro e y1 ⟨rfl, bq⟩
              rw [hok]
              have Y1 : Hid (Below wx.heap.size wx y1) := Below.trans (Below.drew (Below.refl _ _)) bq
              clear bq
              try go_wp2_with fail
              refine hK.out _ _ ⟨cell_step3 x0 Y1.out, cell_step3 x1 Y1.out, cell_step3 x2 Y1.out⟩ (fun hHeld => ?_)
              clear hK K
              try simp only [Act.put, List.setIfInBounds_toArray, List.set_cons_zero, List.set_cons_succ]
              refine wpAnyH_take (i := 3) (oi := ?oiboy3) (v := .bool true) ?hiboy3 (by kernel_rfl) (by kernel_rfl) (by kernel_rfl) ?hqboy3 ?hyboy3 hHeld ?hrboy3
              case hiboy3 =>
                simp only [List.getElem?_toArray, List.getElem?_cons_succ, List.getElem?_cons_zero]
                rfl
              case hqboy3 => exact fun _ _ _ h => h
              case hyboy3 => exact Or.inl ⟨by kernel_rfl, fun w hSw => by go_simp⟩
              try simp only [Act.put, List.setIfInBounds_toArray, List.set_cons_zero, List.set_cons_succ]
              refine wpAnyH_take (i := 4) (oi := ?oiboy4) (v := .agg #[.int .i64 k, .int .i64 xn, .int .i64 0]) ?hiboy4 (by kernel_rfl) (by kernel_rfl) (by kernel_rfl) ?hqboy4 ?hyboy4 hHeld ?hrboy4
              case hiboy4 =>
                simp only [List.getElem?_toArray, List.getElem?_cons_succ, List.getElem?_cons_zero]
                rfl
              case hqboy4 => exact fun _ _ _ h => h
              case hyboy4 => exact Or.inl ⟨by kernel_rfl, fun w hSw => by obtain ⟨s1, s2, s3⟩ := hSw; go_simp⟩
              try simp only [Act.put, List.setIfInBounds_toArray, List.set_cons_zero, List.set_cons_succ]
              refine wpAnyH_take (i := 6) (oi := ?oiboy6) (v := .string s) ?hiboy6 (by kernel_rfl) (by kernel_rfl) (by kernel_rfl) ?hqboy6 ?hyboy6 hHeld ?hrboy6
              case hiboy6 =>
                simp only [List.getElem?_toArray, List.getElem?_cons_succ, List.getElem?_cons_zero]
                rfl
              case hqboy6 => exact fun _ _ _ h => h
              case hyboy6 => exact Or.inl ⟨by kernel_rfl, fun w hSw => by go_simp⟩
              try simp only [Act.put, List.setIfInBounds_toArray, List.set_cons_zero, List.set_cons_succ]
              refine wpAnyH_ready (rs := [5]) (by kernel_rfl) (by simp) ?_
              refine (AllReadyH.cons (o := ?ooboy5) ?hoboy5 (fun K hK => ?hkboy5) AllReadyH.nil)
              case hoboy5 =>
                simp only [List.getElem?_toArray, List.getElem?_cons_succ, List.getElem?_cons_zero]
                rfl
              case hkboy5 =>
                go_simp
                go_at_call 25
                refine (l13Stmt ⟨k, xn, 0⟩ _ hok).mono ?_
                rintro e y2 ⟨rfl, bq⟩
                have Y2 : Hid (Below wx.heap.size wx y2) := Y1.out.trans (bq.mono Y1.out.size)
                clear bq
                try go_wp2_with fail
                refine hK.out _ _ ⟨cell_step3 x0 Y2.out, cell_step3 x1 Y2.out, cell_step3 x2 Y2.out⟩ (fun hHeld => ?_)
                clear hK K
                try simp only [Act.put, List.setIfInBounds_toArray, List.set_cons_zero, List.set_cons_succ]
                refine wpAnyH_take (i := 7) (oi := ?oiboy7) (v := .bool bB) ?hiboy7 (by kernel_rfl) (by kernel_rfl) (by kernel_rfl) ?hqboy7 ?hyboy7 hHeld ?hrboy7
                case hiboy7 =>
                  simp only [List.getElem?_toArray, List.getElem?_cons_succ, List.getElem?_cons_zero]
                  rfl
                case hqboy7 => exact fun _ _ _ h => h
                case hyboy7 => exact Or.inl ⟨by kernel_rfl, fun w hSw => by go_simp; first | done | exact hbB⟩
                try simp only [Act.put, List.setIfInBounds_toArray, List.set_cons_zero, List.set_cons_succ]
                refine wpAnyH_take (i := 8) (oi := ?oiboy8) (v := .bool bB) ?hiboy8 (by kernel_rfl) (by kernel_rfl) (by kernel_rfl) ?hqboy8 ?hyboy8 hHeld ?hrboy8
                case hiboy8 =>
                  simp only [List.getElem?_toArray, List.getElem?_cons_succ, List.getElem?_cons_zero]
                  rfl
                case hqboy8 => exact fun _ _ _ h => h
                case hyboy8 => exact Or.inl ⟨by kernel_rfl, fun w hSw => by go_simp⟩
                try simp only [Act.put, List.setIfInBounds_toArray, List.set_cons_zero, List.set_cons_succ]
                refine wpAnyH_ready (rs := [9]) (by kernel_rfl) (by simp) ?_
                refine (AllReadyH.cons (o := ?ooboy9) ?hoboy9 (fun K hK => ?hkboy9) AllReadyH.nil)
                case hoboy9 =>
                  simp only [List.getElem?_toArray, List.getElem?_cons_succ, List.getElem?_cons_zero]
                  rfl
                case hkboy9 =>
                  have RR : y2.heap[w.heap.size]? = some (.cells #[.int .i64 0, .int .i64 0, .int .i64 0] 42 (0, 0)) := (Y2.out.block _ (by have := (Array.getElem?_eq_some_iff.1 RX.out).1; exact this)).trans RX.out
                  obtain ⟨⟨q0, q1, q2⟩, fr⟩ := threeC RR
                  have f0 := fr 0
                  have f1 := fr 1
                  have f2 := fr 2
                  have RS := threeS (.int .i64 k) (.int .i64 xn) (.int .i64 0) RR
                  obtain ⟨⟨r0, r1, r2⟩, -⟩ := threeC RS
                  have HBF : Hid (Below w.heap.size w (((y2.setCell ⟨w.heap.size, 0, none⟩ (.int .i64 k)).setCell ⟨w.heap.size, 1, none⟩ (.int .i64 xn)).setCell ⟨w.heap.size, 2, none⟩ (.int .i64 0))) := below_three (BX.out.trans (Y2.out.mono BX.out.size)) (Nat.le_refl _) _ _ _
                  clear RS RR fr
                  go_simp
                  try go_wp2_with fail
                  refine hK.out _ _ ⟨set3_cell hXw (cell_step3 x0 Y2.out) _ _ _, set3_cell hXw (cell_step3 x1 Y2.out) _ _ _, set3_cell hXw (cell_step3 x2 Y2.out) _ _ _⟩ (fun hHeld => ?_)
                  clear hK K
                  try simp only [Act.put, List.setIfInBounds_toArray, List.set_cons_zero, List.set_cons_succ]
                  refine wpAnyH_take (i := 10) (oi := ?oiboy10) (v := .bool bB) ?hiboy10 (by kernel_rfl) (by kernel_rfl) (by kernel_rfl) ?hqboy10 ?hyboy10 hHeld ?hrboy10
                  case hiboy10 =>
                    simp only [List.getElem?_toArray, List.getElem?_cons_succ, List.getElem?_cons_zero]
                    rfl
                  case hqboy10 => exact fun _ _ _ h => h
                  case hyboy10 => exact Or.inl ⟨by kernel_rfl, fun w hSw => by go_simp⟩
                  try simp only [Act.put, List.setIfInBounds_toArray, List.set_cons_zero, List.set_cons_succ]
                  refine wpAnyH_done (by kernel_rfl) ?_ _
                  generalize (((y2.setCell ⟨w.heap.size, 0, none⟩ (.int .i64 k)).setCell ⟨w.heap.size, 1, none⟩ (.int .i64 xn)).setCell ⟨w.heap.size, 2, none⟩ (.int .i64 0)) = wf at *
                  go_wp2
                  refine bodyPost_ret (v := .tuple #[.agg #[.int .i64 k, .int .i64 xn, .int .i64 0], .bool bB]) (by simp [results, Tryd.results23, go_sem, r0, r1, r2]) rfl ?_
                  exact ⟨⟨k, xn, 0⟩, bB, rfl, HBF.out, HT.out, HF.out⟩
      · have hcb : (((s[0].toNat : Nat) : Int) == ((letter (k : Int)).toNat : Int)) = false := by
          rw [beq_eq_false_iff_ne]
          intro e
          exact hc (UInt8.toNat_inj.1 (by omega))
        have HR2 : Hid (wr.drew.heap[w.heap.size]? = some (.cells #[.int .i64 0, .int .i64 0, .int .i64 0] 42 (0, 0))) := R0
        have HB2 : Hid (Below w.heap.size w wr.drew) := HB.out.drew
        have hkw : IntKind.i64.wrap ((k : Int) + 1) = (k : Int) + 1 := IntWalk.i64_in _ (by omega)
        have HLE2 : Hid (∀ i : Nat, 1 ≤ i → i < k + 1 → s[0] ≠ letter i) := fun i h1 h2 => by
          rcases Nat.lt_or_ge i k with h | h
          · exact HLE.out i h1 h
          · have : i = k := by omega
            subst this
            exact hc
        clear HNO R0 HB HLE hc
        go_wp2
        go_region
        go_wp2
        go_roundw
        case rel => exact ⟨k + 1, by go_num, by omega, by omega, HLE2.out, HR2.out, HB2.out⟩
        case measure => simp [intOf]; omega
    · have hlt9 : (9 : Int) < (k : Int) := by omega
      obtain ⟨⟨q0, q1, q2⟩, fr⟩ := threeC R0
      have f0 := fr 0
      have f1 := fr 1
      have f2 := fr 2
      have R1 := threeS (.int .i64 0) (.int .i64 0) (.int .i64 0) R0
      have HBF : Hid (Below w.heap.size w (((wr.setCell ⟨w.heap.size, 0, none⟩ (.int .i64 0)).setCell ⟨w.heap.size, 1, none⟩ (.int .i64 0)).setCell ⟨w.heap.size, 2, none⟩ (.int .i64 0))) := below_three HB.out (Nat.le_refl _) _ _ _
      obtain ⟨⟨r0, r1, r2⟩, -⟩ := threeC R1
      clear R1 fr
      go_wp2
      generalize (((wr.setCell ⟨w.heap.size, 0, none⟩ (.int .i64 0)).setCell ⟨w.heap.size, 1, none⟩ (.int .i64 0)).setCell ⟨w.heap.size, 2, none⟩ (.int .i64 0)) = wf at *
      refine bodyPost_ret (v := .tuple #[.agg #[.int .i64 0, .int .i64 0, .int .i64 0], .bool false]) (by simp [results, Tryd.results23, go_sem, r0, r1, r2]) rfl ?_
      exact ⟨⟨0, 0, 0⟩, false, rfl, HBF.out, ⟨fun h => absurd h (by decide), fun _ => HNO.out hlt⟩⟩

end Go.Proofs.YtjdmmpdcafbneaaDoor
