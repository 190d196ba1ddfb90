/-
  The laws' helpers over slices of texts: eqStringS, markText, markStringS, heldStringS.
-/
import Derived.Test.YtepahapocgmhiaaBase
namespace Go.Proofs.Ytepahapocgmhiaa
open Go.RowKit
set_option linter.unusedVariables false
set_option maxHeartbeats 4000000

theorem eqStringS (ts : List ByteArray) (v u : Value) (w : World) (hl : ts.length ≤ maxLen) (hv : Reads w v (ts.map .string)) (hu : Reads w u (ts.map .string)) :
    Calls Try.prog 31 #[v, u] w fun e w' => e = .returned (.bool true) ∧ Below w.heap.size w w' := by
  unfold maxLen at hl
  obtain ⟨ao, cap, rfl, hc⟩ := hv
  obtain ⟨bo, cap', rfl, hd⟩ := hu
  simp only [List.length_map]
  go_enter Try.func31, Try.ntmps31
  go_wp2
  go_loopw [5] (fun i wr => ∃ k : Nat, k ≤ ts.length ∧ i = .int .i64 k ∧ Below w.heap.size w wr) (fun i _ => ts.length - (intOf i).toNat)
  case atStart => exact ⟨0, Nat.zero_le _, rfl, Below.refl _ _⟩
  case round =>
    obtain ⟨k, hk, rfl, hb⟩ := hrel
    by_cases hlt : k < ts.length
    · obtain ⟨g, off, rfl, hg⟩ := hc k (.string ts[k]) (by simp [hlt])
      obtain ⟨g', off', rfl, hg'⟩ := hd k (.string ts[k]) (by simp [hlt])
      have hg := (hb.cell (World.block_lt_of_cell? w _ hg)).trans hg
      have hg' := (hb.cell (World.block_lt_of_cell? w _ hg')).trans hg'
      have hlt' : (k : Int) < (ts.length : Int) := by omega
      clear hc hd
      go_wp2
      go_quiet (fail)
      go_wp2
      go_roundw
      case rel => exact ⟨k + 1, by omega, by go_num, below_drewN hb _⟩
      case measure => simp [intOf]; omega
    · go_wp2
      go_ret
      exact ⟨rfl, hb⟩

/-- The digits of k, as markText lays them ahead of out. -/
def marks : Nat → Int → ByteArray → ByteArray
  | 0, _, out => out
  | n + 1, k, out => if 0 < k then marks n (k / 10) (strOfNums [48 + k % 10] ++ out) else out

def mark (k : Int) : ByteArray := ⟨#[109]⟩ ++ marks k.toNat k ⟨#[]⟩

theorem oneByte (T : TypeId) (x : Int) (w : World) :
    (convert 114 9 (Value.slice (some { block := w.heap.size, off := 0 }) 1 1)).run Try.prog (w.alloc (Obj.cells #[Value.int IntKind.u8 x] T))
      = .ok (.string (strOfNums [x])) (w.alloc (Obj.cells #[Value.int IntKind.u8 x] T)) := by
  refine run_convert_bytes_arg _ 114 5 Try.underlying114 Try.underlying5 w.heap.size 0 1 1 [x] rfl ?_ 9 Try.underlying9
  intro i hi
  have : i = 0 := by omega
  subst this
  simp

theorem markText (k : Int) (h1 : 1 ≤ k) (h2 : k ≤ 4611686018427387904) (w : World) :
    Calls Try.prog 57 #[.int .i64 k] w fun e w' => e = .returned (.string (mark k)) ∧ Below w.heap.size w w' := by
  go_enter Try.func57, Try.ntmps57
  go_wp2
  go_loopw [0, 3] (fun i o wr => ∃ (j : Int) (out : ByteArray) (n : Nat), 0 ≤ j ∧ j ≤ n ∧ out.size + j.toNat ≤ k.toNat ∧ i = .int .i64 j ∧ o = .string out ∧ marks k.toNat k ⟨#[]⟩ = marks n j out ∧ Below w.heap.size w wr) (fun i _ _ => (intOf i).toNat)
  case atStart => exact ⟨k, ⟨#[]⟩, k.toNat, by omega, by omega, by simp [ByteArray.size], rfl, rfl, rfl, Below.refl _ _⟩
  case round =>
    obtain ⟨j, out, n, hj, hn, hs, rfl, rfl, he, hb⟩ := hrel
    have HE : Hid (marks k.toNat k ⟨#[]⟩ = marks n j out) := he
    clear he
    have kc := oneByte
    by_cases hlt : 0 < j
    · have ks : ¬ 9223372036854775807 < (strOfNums [48 + j % 10]).size + out.size := by simp only [strOfNums_size, List.length_cons, List.length_nil]; omega
      have ks' : (strOfNums [48 + j % 10]).size + out.size ≤ 9223372036854775807 := by omega
      have hz : (strOfNums [48 + j % 10] ++ out).size = 1 + out.size := by rw [ByteArray.size_append, strOfNums_size]; rfl
      have HZ : Hid ((strOfNums [48 + j % 10] ++ out).size = 1 + out.size) := hz
      clear hz
      go_wp2
      go_roundw
      case rel =>
        obtain ⟨m, rfl⟩ : ∃ m, n = m + 1 := ⟨n - 1, by omega⟩
        refine ⟨j / 10, strOfNums [48 + j % 10] ++ out, m, by omega, by omega, by rw [HZ.out]; omega, by go_num, rfl, ?_, hb.alloc hb.size _⟩
        rw [HE.out, marks, if_pos hlt]
      case measure => simp [intOf]; omega
    · have ks : ¬ 9223372036854775807 < (ByteArray.mk #[109]).size + out.size := by show ¬ _ < 1 + out.size; omega
      have ks' : (ByteArray.mk #[109]).size + out.size ≤ 9223372036854775807 := by omega
      have HM : Hid (mark k = ⟨#[109]⟩ ++ out) := by
        show mark k = _
        rw [mark, HE.out]
        cases n with
        | zero => rfl
        | succ m => rw [marks, if_neg hlt]
      go_wp2
      go_ret
      exact ⟨by rw [HM.out]; rfl, hb⟩

/-- The marks that markStringS lays from k on. -/
def markList (k : Int) : Nat → List ByteArray
  | 0 => []
  | n + 1 => mark k :: markList (k + 1) n

theorem markList_length : ∀ (n : Nat) (k : Int), (markList k n).length = n
  | 0, _ => rfl
  | n + 1, k => by simp [markList, markList_length n]

theorem markList_get : ∀ (n : Nat) (k : Int) (j : Nat), j < n → (markList k n)[j]? = some (mark (k + j))
  | 0, _, _, h => absurd h (by omega)
  | n + 1, k, 0, _ => by simp [markList]
  | n + 1, k, j + 1, h => by
    rw [markList, List.getElem?_cons_succ, markList_get n (k + 1) j (by omega)]
    congr 2
    push_cast
    omega

/-- What markStringS makes of the row, j cells in. -/
def marked (k : Int) (xs : List Value) (j : Nat) : List Value := (markList k j).map .string ++ xs.drop j

theorem marked_length (k : Int) (xs : List Value) (j : Nat) (h : j ≤ xs.length) : (marked k xs j).length = xs.length := by
  simp [marked, markList_length]; omega

theorem markList_snoc : ∀ (j : Nat) (k : Int), markList k (j + 1) = markList k j ++ [mark (k + j)]
  | 0, k => by simp [markList]
  | j + 1, k => by
    rw [markList, markList_snoc j (k + 1), markList]
    simp only [List.cons_append]
    congr 4
    push_cast
    omega

theorem marked_set (k : Int) (xs : List Value) (j : Nat) (h : j < xs.length) : (marked k xs j).set j (.string (mark (k + j))) = marked k xs (j + 1) := by
  unfold marked
  rw [markList_snoc, List.set_append_right _ _ (by simp [markList_length])]
  simp only [List.length_map, markList_length, Nat.sub_self]
  rw [List.drop_eq_getElem_cons h, List.set_cons_zero]
  simp

theorem markStringS (xs : List Value) (v : Value) (base : Nat) (k : Int) (w : World) (hl : xs.length ≤ 1099511627776) (h1 : 1 ≤ k) (h2 : k ≤ 1099511627776) (hbase : base ≤ w.heap.size)
    (hv : w.ownsRow base 9 1 v xs.length xs) :
    Calls Try.prog 36 #[v, .int .i64 k] w fun e w' => e = .returned (.int .i64 (k + xs.length)) ∧ w'.ownsRow base 9 1 v xs.length ((markList k xs.length).map .string) ∧ Below base w w' ∧ w.grownBy w' v.ownBlock := by
  rcases hv.2 with ⟨rfl, hn⟩ | ⟨g, cap, cur, rfl, hbg, hg, hcap⟩
  · have hx : xs = [] := List.eq_nil_of_length_eq_zero hn
    subst hx
    go_enter Try.func36, Try.ntmps36
    go_wp2
    refine wp_loop_rounds 1 ?_
    rw [rounds_succ]
    go_wp2
    go_ret
    exact ⟨ret_int (by simp), hv, Below.refl _ _, World.grownBy.refl _ _⟩
  · clear hcap
    go_enter Try.func36, Try.ntmps36
    go_wp2
    go_loopw [1, 5] (fun q i wr => ∃ j : Nat, j ≤ xs.length ∧ i = .int .i64 j ∧ q = .int .i64 (k + j) ∧ wr.ownsRow base 9 1 (.slice (some ⟨g, 0, none⟩) xs.length cap) xs.length (marked k xs j) ∧ Below base w wr ∧ w.grownBy wr (some g)) (fun _ i _ => xs.length - (intOf i).toNat)
    case atStart => exact ⟨0, Nat.zero_le _, rfl, by simp, by simpa [marked, markList] using hv, Below.refl _ _, World.grownBy.refl _ _⟩
    case round =>
      obtain ⟨j, hj, rfl, rfl, hown, hb, hgr⟩ := hrel
      by_cases hlt : j < xs.length
      · have hlt' : (j : Int) < (xs.length : Int) := by omega
        have hfr := hown.frozenAt j
        have hlen := marked_length k xs j hj
        have hcl : ∃ x, wr.cell? ⟨g, j, none⟩ = some x := by
          have := hown.cellAt j (by omega)
          exact ⟨(marked k xs j)[j]'(by omega), by rw [this]; simp⟩
        obtain ⟨x, hcl⟩ := hcl
        go_wp2_with (go_at_call 57; refine (markText _ (by omega) (by omega) _).mono ?_; rintro e w1 ⟨rfl, hb1⟩; have hcl1 := (hb1.cell (World.block_lt_of_cell? wr _ hcl)).trans hcl; have hfr1 := (hb1.frozen (p := ⟨g, j, none⟩) (World.block_lt_of_cell? wr _ hcl)).trans hfr)
        go_roundw
        case rel =>
          have hown1 := own_kept hown hb1
          have hst := hown1.stored j (.string (mark (k + j)))
          refine ⟨j + 1, by omega, by go_num, by go_num, ?_, ?_, grown_trans (grown_trans hgr (grown_of_below hb1 _)) hst.2⟩
          · rw [← marked_set k xs j hlt]; exact hst.1
          · exact (hb.trans (hb1.mono (Nat.le_trans hbase hb.size))).setCell hbg _
        case measure => simp [intOf]; omega
      · have hjj : j = xs.length := by omega
        subst hjj
        go_wp2
        go_ret
        refine ⟨rfl, ?_, hb, hgr⟩
        have : marked k xs xs.length = (markList k xs.length).map .string := by simp [marked]
        rw [← this]; exact hown

theorem heldStringS (n : Nat) (v : Value) (k : Int) (w : World) (hl : n ≤ 1099511627776) (h1 : 1 ≤ k) (h2 : k ≤ 1099511627776)
    (hv : Reads w v ((markList k n).map .string)) :
    Calls Try.prog 38 #[v, .int .i64 k] w fun e w' => e = .returned (.int .i64 (k + n)) ∧ Below w.heap.size w w' := by
  obtain ⟨ao, cap, rfl, hc⟩ := hv
  have hlen := markList_length n k
  simp only [List.length_map, hlen]
  go_enter Try.func38, Try.ntmps38
  go_wp2
  go_loopw [1, 5] (fun q i wr => ∃ j : Nat, j ≤ n ∧ i = .int .i64 j ∧ q = .int .i64 (k + j) ∧ Below w.heap.size w wr) (fun _ i _ => n - (intOf i).toNat)
  case atStart => exact ⟨0, Nat.zero_le _, rfl, by simp, Below.refl _ _⟩
  case round =>
    obtain ⟨j, hj, rfl, rfl, hb⟩ := hrel
    by_cases hlt : j < n
    · have hlt' : (j : Int) < (n : Int) := by omega
      obtain ⟨g, off, rfl, hg⟩ := hc j (.string (mark (k + j))) (by simp [markList_get n k j hlt])
      have hg := (hb.cell (World.block_lt_of_cell? w _ hg)).trans hg
      clear hc
      go_wp2
      go_region_with (go_at_call 57; refine (markText _ (by omega) (by omega) _).mono ?_; rintro e w1 ⟨rfl, hb1⟩; have hg1 := (hb1.cell (World.block_lt_of_cell? _ _ hg)).trans hg)
      all_goals
        go_wp2
        go_roundw
        case rel => exact ⟨j + 1, by omega, by go_num, by go_num, (show Below w.heap.size w wr.drew from hb.drew).trans (Below.mono (by assumption) (by have := hb.size; simpa using this))⟩
        case measure => simp [intOf]; omega
    · have hjj : j = n := by omega
      subst hjj
      go_wp2
      go_ret
      exact ⟨rfl, hb⟩

theorem infoString : (Try.prog.info? 9).map (fun i => (i.zero, i.size, i.bytes)) = some (some (.string ⟨#[]⟩), 1, 16) := by kernel_rfl

/-- A row of n cells, the first k of them those of xs. -/
def filledT (xs zs : List Value) (k : Nat) : List Value := xs.take k ++ zs.drop k

theorem filledT_length (xs zs : List Value) (k : Nat) (hl : xs.length = zs.length) (h : k ≤ xs.length) : (filledT xs zs k).length = xs.length := by
  simp [filledT]; omega

theorem filledT_set (xs zs : List Value) (k : Nat) (hl : xs.length = zs.length) (h : k < xs.length) : (filledT xs zs k).set k xs[k] = filledT xs zs (k + 1) := by
  unfold filledT
  have hk : (xs.take k).length = k := by simp; omega
  rw [List.set_append_right _ _ (by simp; omega), hk, Nat.sub_self, List.drop_eq_getElem_cons (by omega), List.set_cons_zero, List.take_succ_eq_append_getElem h]
  exact (List.append_assoc (xs.take k) [xs[k]] (zs.drop (k + 1))).symm

theorem toStringS (ts : List ByteArray) (v : Value) (w : World) (hl : ts.length ≤ 1048576) (hv : Reads w v (ts.map .string)) :
    Calls Try.prog 28 #[v] w fun e w' => ∃ u, e = .returned u ∧ w'.ownsRow w.heap.size 9 1 u ts.length (ts.map .string) ∧ Below w.heap.size w w' := by
  obtain ⟨i0, hi, hz0, hz1, hz2⟩ := info_parts infoString
  obtain ⟨ao, cap, rfl, hc⟩ := hv
  simp only [List.length_map]
  go_enter Try.func28, Try.ntmps28
  go_wp2_with (refine wpList_make_full _ rfl (.tmp 6) (.tmp 6) 23 rfl w.heap.size 9 i0 (.string ⟨#[]⟩) 1 Try.underlying23 hi hz0 hz1 .i64 .i64 _ _ ts.length rfl rfl rfl rfl (by rw [hz2]; omega) (by unfold maxLen; omega) (Nat.le_refl _) ?_; intro w1 own1 grow1)
  have zl : (madeCells (Value.string ⟨#[]⟩).cells (ts.length * 1)).toList.length = ts.length := by simpa using own1.1
  generalize (madeCells (Value.string ⟨#[]⟩).cells (ts.length * 1)).toList = zs at own1 zl
  have hb1 : Below w.heap.size w w1 := (Below.refl _ _).grown grow1 (Nat.le_refl _) (by simp)
  go_loopw [4] (fun i wr => ∃ k : Nat, k ≤ ts.length ∧ i = .int .i64 k ∧ wr.ownsRow w.heap.size 9 1 (.slice (some ⟨w.heap.size, 0, none⟩) ts.length ts.length) ts.length (filledT (ts.map .string) zs k) ∧ Below w.heap.size w wr) (fun i _ => ts.length - (intOf i).toNat)
  case atStart => exact ⟨0, Nat.zero_le _, rfl, by simpa [filledT] using own1, hb1⟩
  case round =>
    obtain ⟨k, hk, rfl, hown, hb⟩ := hrel
    by_cases hlt : k < ts.length
    · obtain ⟨g, off, rfl, hg⟩ := hc k (.string ts[k]) (by simp [hlt])
      have hgw := World.block_lt_of_cell? w _ hg
      have hg := (hb.cell hgw).trans hg
      have hlt' : (k : Int) < (ts.length : Int) := by omega
      have hfr := hown.frozenAt k
      have hln := filledT_length (ts.map .string) zs k (by simp [zl]) (by simp; omega)
      simp only [List.length_map] at hln
      have hcl : ∃ x, wr.cell? ⟨w.heap.size, k, none⟩ = some x := by
        have := hown.cellAt k (by omega)
        exact ⟨(filledT (ts.map .string) zs k)[k]'(by omega), by rw [this]; simp⟩
      obtain ⟨x, hcl⟩ := hcl
      have hst := hown.stored k (.string ts[k])
      have hfs := filledT_set (ts.map .string) zs k (by simp [zl]) (by simpa using hlt)
      simp only [List.getElem_map] at hfs
      rw [hfs] at hst
      have HST : Hid _ := hst
      clear hst hfs hc
      go_wp2
      go_roundw
      case rel => exact ⟨k + 1, by omega, by go_num, HST.out.1, hb.setCell (Nat.le_refl _) _⟩
      case measure => simp [intOf]; omega
    · have hkk : k = ts.length := by omega
      subst hkk
      go_wp2
      go_ret
      refine ⟨_, rfl, ?_, hb⟩
      have : filledT (ts.map .string) zs ts.length = ts.map .string := by rw [filledT, List.take_of_length_le (by simp), List.drop_of_length_le (by omega), List.append_nil]
      rw [← this]; exact hown

/-- How many texts and bytes. -/
def bulkS : List ByteArray → Nat
  | [] => 0
  | t :: ts => t.size + bulkS ts

theorem bulkS_snoc (ts : List ByteArray) (t : ByteArray) : bulkS (ts ++ [t]) = bulkS ts + t.size := by
  induction ts with
  | nil => simp [bulkS]
  | cons x ts ih => simp [bulkS, ih]; omega

theorem bulkS_take (ts : List ByteArray) (k : Nat) (h : k < ts.length) : bulkS (ts.take (k + 1)) = bulkS (ts.take k) + ts[k].size := by
  rw [List.take_succ_eq_append_getElem h, bulkS_snoc]

theorem szStringS (ts : List ByteArray) (v : Value) (w : World) (hl : ts.length ≤ maxLen) (hs : ∀ t ∈ ts, t.size ≤ maxLen) (hv : Reads w v (ts.map .string)) :
    Calls Try.prog 24 #[v, .int .i64 1048576] w fun e w' => ∃ r : Int, e = .returned (.int .i64 r) ∧ (0 ≤ r → ts.length + bulkS ts ≤ 1048576) ∧ Below w.heap.size w w' := by
  unfold maxLen at hl hs
  obtain ⟨ao, cap, rfl, hc⟩ := hv
  simp only [List.length_map]
  by_cases h0 : (1048576 : Int) < (ts.length : Int)
  · have hx : (decide (1048576 - (ts.length : Int) < 0)) = true := by simp; omega
    go_enter Try.func24, Try.ntmps24
    go_wp2
    go_ret
    exact ⟨-1, rfl, by omega, Below.refl _ _⟩
  · have hx : (decide (1048576 - (ts.length : Int) < 0)) = false := by simp; omega
    go_enter Try.func24, Try.ntmps24
    go_wp2
    go_loopw [1, 5] (fun q i wr => ∃ k : Nat, k ≤ ts.length ∧ i = .int .i64 k ∧ (ts.length : Int) + bulkS (ts.take k) ≤ 1048576 ∧ q = .int .i64 (1048576 - (ts.length : Int) - bulkS (ts.take k)) ∧ Below w.heap.size w wr) (fun _ i _ => ts.length - (intOf i).toNat)
    case atStart => exact ⟨0, Nat.zero_le _, rfl, by simp [bulkS]; omega, by simp [bulkS], Below.refl _ _⟩
    case round =>
      obtain ⟨k, hk, rfl, hsum, rfl, hb⟩ := hrel
      by_cases hlt : k < ts.length
      · obtain ⟨g, off, rfl, hg⟩ := hc k (.string ts[k]) (by simp [hlt])
        have hg := (hb.cell (World.block_lt_of_cell? w _ hg)).trans hg
        have hlt' : (k : Int) < (ts.length : Int) := by omega
        have hsz := hs ts[k] (List.getElem_mem hlt)
        have htk := bulkS_take ts k hlt
        have HTK : Hid (bulkS (ts.take (k + 1)) = bulkS (ts.take k) + ts[k].size) := htk
        clear htk hc hs
        by_cases h2 : (1048576 : Int) - ts.length - bulkS (ts.take k) - ts[k].size < 0
        · go_wp2
          go_ret
          exact ⟨-1, rfl, by omega, hb⟩
        · go_wp2
          go_roundw
          case rel => exact ⟨k + 1, by omega, by go_num, by rw [HTK.out]; omega, by rw [HTK.out]; go_num, hb⟩
          case measure => simp [intOf]; omega
      · have hkk : k = ts.length := by omega
        subst hkk
        go_wp2
        go_ret
        refine ⟨_, rfl, fun _ => ?_, hb⟩
        rw [List.take_length] at hsum
        omega

end Go.Proofs.Ytepahapocgmhiaa
