/-
  spec.l1Bend: a text, bent.
-/
import Derived.Test.YtjdmmpdcafbneaaDoorG01DrawKit
import Derived.Test.YtjdmmpdcafbneaaDoorDrawAnyM
import Derived.Test.YtjdmmpdcafbneaaDoorDo13M
import Derived.Test.YtjdmmpdcafbneaaDoorRegionLast
import Derived.Laws.BytesArg
import Derived.Lib.ConvBytes
import Derived.Shelf.Bytes.SlSmallAll
namespace Go.Proofs.YtjdmmpdcafbneaaDoor
open Go.RowKit
set_option linter.unusedVariables false
set_option linter.unusedSimpArgs false
set_option maxHeartbeats 8000000
set_option maxRecDepth 20000

theorem infoU8 : (Tryd.prog.info? 5).map (fun i => (i.zero, i.size, i.bytes)) = some (some (.int .u8 0), 1, 1) := by kernel_rfl

abbrev u8s (xs : List Int) : List Value := xs.map (Value.int .u8)

/-- A slice of bytes that lies in one block from lo on, and may be written. -/
def BR (W : World) (lo : Nat) (v : Value) (xs : List Int) : Prop :=
  ∃ ao cap, v = .slice ao xs.length cap ∧ (xs = [] ∨ ∃ b, ao = some ⟨b, 0, none⟩ ∧ lo ≤ b ∧ b < W.heap.size ∧ xs.length ≤ cap ∧ ∀ j x, xs[j]? = some x → W.cell? ⟨b, j, none⟩ = some (.int .u8 x) ∧ W.frozen? ⟨b, j, none⟩ = false)

theorem BR.grown {W W' : World} {lo g : Nat} {v : Value} {xs : List Int} (h : BR W lo v xs) (hg : W.grownBy W' (some g)) (hlo : g < lo) : BR W' lo v xs := by
  obtain ⟨ao, cap, rfl, h⟩ := h
  refine ⟨ao, cap, rfl, ?_⟩
  rcases h with h | ⟨b, rfl, h1, h2, h3, h4⟩
  · exact .inl h
  · have hb : W'.heap[b]? = W.heap[b]? := hg.block b h2 (by simp; omega)
    exact .inr ⟨b, rfl, h1, Nat.lt_of_lt_of_le h2 hg.size, h3, fun j x hx => ⟨(World.cell?_of_block (a := ⟨b, j, none⟩) hb).trans (h4 j x hx).1, (World.frozen?_of_block (a := ⟨b, j, none⟩) hb).trans (h4 j x hx).2⟩⟩
theorem BR.of_own {W : World} {lo n : Nat} {v : Value} {xs : List Int} (h : W.ownsRow lo 5 1 v n (u8s xs)) (hn : n = xs.length) : BR W lo v xs := by
  subst hn
  by_cases h0 : xs.length = 0
  · obtain ⟨ao, len, cap, rfl⟩ : ∃ a l c, v = .slice a l c := by
      rcases h.2 with ⟨rfl, _⟩ | ⟨g, cap, cur, rfl, _⟩
      · exact ⟨_, _, _, rfl⟩
      · exact ⟨_, _, _, rfl⟩
    have hl : len = xs.length := by
      rcases h.2 with ⟨e, hz⟩ | ⟨g, c9, cur, e, _⟩
      · simp at e; omega
      · simp at e; omega
    subst hl
    exact ⟨ao, cap, rfl, .inl (List.eq_nil_of_length_eq_zero h0)⟩
  · obtain ⟨g, cap, rfl, h1, h2⟩ := h.form (by omega)
    refine ⟨_, cap, rfl, .inr ⟨g, rfl, h1, h2, own_capD h, fun j x hx => ?_⟩⟩
    have hj := (List.getElem?_eq_some_iff.1 hx).1
    refine ⟨?_, h.frozenAt j⟩
    rw [h.cellAt j (by omega)]
    simp [hx]
theorem BR.form {W : World} {lo : Nat} {v : Value} {xs : List Int} (h : BR W lo v xs) (hn : 0 < xs.length) : ∃ b cap, v = .slice (some ⟨b, 0, none⟩) xs.length cap ∧ lo ≤ b ∧ b < W.heap.size ∧ xs.length ≤ cap ∧ ∀ j x, xs[j]? = some x → W.cell? ⟨b, j, none⟩ = some (.int .u8 x) ∧ W.frozen? ⟨b, j, none⟩ = false := by
  obtain ⟨ao, cap, rfl, h⟩ := h
  rcases h with rfl | ⟨b, rfl, h1, h2, h3, h4⟩
  · simp at hn
  · exact ⟨b, cap, rfl, h1, h2, h3, h4⟩
theorem BR.formN {W : World} {lo n cap : Nat} {a : Option Addr} {xs : List Int} (h : BR W lo (.slice a n cap) xs) (hn : xs.length = n) (h0 : 0 < n) : ∃ b, a = some ⟨b, 0, none⟩ ∧ lo ≤ b ∧ b < W.heap.size ∧ n ≤ cap ∧ ∀ j x, xs[j]? = some x → W.cell? ⟨b, j, none⟩ = some (.int .u8 x) ∧ W.frozen? ⟨b, j, none⟩ = false := by
  subst hn
  obtain ⟨b, c, e, h1, h2, h3, h4⟩ := h.form h0
  obtain ⟨rfl, rfl⟩ : a = some ⟨b, 0, none⟩ ∧ cap = c := by simpa using e
  exact ⟨b, rfl, h1, h2, h3, h4⟩
theorem BR.slice {W : World} {lo : Nat} {v : Value} {xs : List Int} (h : BR W lo v xs) : ∃ ao cap, v = .slice ao xs.length cap := by
  obtain ⟨ao, cap, rfl, h⟩ := h
  exact ⟨ao, cap, rfl⟩

theorem slice_pre (b n cap k : Nat) (hk : k ≤ cap) : ∀ W : World, (Instr.slice 22 (.slice (some ⟨b, 0, none⟩) n cap) none (some (.int .i64 (k : Int))) none).run Tryd.prog W = .ok (.slice (some ⟨b, 0, none⟩) k cap) W := by
  intro W
  rw [run_slice_h (ht := Tryd.underlying22) W _ _ _ _ .i64 (k : Int) (by omega) (by omega)]
  simp [sliced, go_sem]
theorem tail_if (b n vc k : Nat) (hk : k ≤ n) (hc : n ≤ vc) : ∃ to : Nat, (if vc = k then some (⟨b, 0, none⟩ : Addr) else some ⟨b, k, none⟩) = some ⟨b, to, none⟩ ∧ (to = k ∨ n - k = 0) := by
  split
  · exact ⟨0, rfl, .inr (by omega)⟩
  · exact ⟨k, rfl, .inl rfl⟩
theorem index_text (sg : ByteArray) (i : Int) (h0 : 0 ≤ i) (h1 : i < sg.size) : ∃ c : Int, ∀ W : World, (Instr.index 9 (.string sg) (.int .i64 i)).run Tryd.prog W = .ok (.int .u8 c) W := by
  refine ⟨((sg[i.toNat]'(by omega)).toNat : Int), fun W => ?_⟩
  rw [run_index_string W 9 sg .i64 i Tryd.underlying9, dif_pos ⟨h0, h1⟩]

theorem u8s_one (xs : List Int) : ∀ u ∈ u8s xs, u.oneCell' = true := by
  intro u hu
  obtain ⟨x, _, rfl⟩ := List.mem_map.1 hu
  rfl
theorem u8s_append (xs ys : List Int) : u8s xs ++ u8s ys = u8s (xs ++ ys) := by simp [u8s]

/-- The bytes of a slice from one on, in memory. -/
theorem BR.news {W : World} {b to k cap : Nat} {xs : List Int} (h4 : ∀ j x, xs[j]? = some x → W.cell? ⟨b, j, none⟩ = some (.int .u8 x) ∧ W.frozen? ⟨b, j, none⟩ = false) (hto : to = k ∨ xs.length - k = 0) :
    ∀ x : World, x.heap[b]? = W.heap[b]? → ∀ (j : Nat) (u : Value), (u8s (xs.drop k))[j]? = some u → x.cell? ((⟨b, to, none⟩ : Addr).add j) = some u := by
  intro x hx j u hu
  have e2 : (⟨b, to, none⟩ : Addr).add j = ⟨b, to + j, none⟩ := by unfold Addr.add; split <;> simp_all
  rw [e2, World.cell?_of_block (a := ⟨b, to + j, none⟩) hx]
  rw [List.getElem?_map, List.getElem?_drop] at hu
  have hj : ∃ y, xs[k + j]? = some y := by
    cases e : xs[k + j]? with
    | none => rw [e] at hu; cases hu
    | some y => exact ⟨y, rfl⟩
  obtain ⟨y, hy⟩ := hj
  rw [hy] at hu
  have hlt := (List.getElem?_eq_some_iff.1 hy).1
  obtain rfl : to = k := by omega
  rw [(h4 _ _ hy).1]
  simpa using hu
theorem BR.newsT {W : World} {b k : Nat} {xs : List Int} (h4 : ∀ j x, xs[j]? = some x → W.cell? ⟨b, j, none⟩ = some (.int .u8 x) ∧ W.frozen? ⟨b, j, none⟩ = false) :
    ∀ x : World, x.heap[b]? = W.heap[b]? → ∀ (j : Nat) (u : Value), (u8s (xs.take k))[j]? = some u → x.cell? ((⟨b, 0, none⟩ : Addr).add j) = some u := by
  intro x hx j u hu
  have e2 : (⟨b, 0, none⟩ : Addr).add j = ⟨b, j, none⟩ := by unfold Addr.add; split <;> simp_all
  rw [e2, World.cell?_of_block (a := ⟨b, j, none⟩) hx]
  rw [List.getElem?_map, List.getElem?_take] at hu
  by_cases hjk : j < k
  · rw [if_pos hjk] at hu
    cases e : xs[j]? with
    | none => rw [e] at hu; cases hu
    | some y =>
      rw [e] at hu
      rw [(h4 _ _ e).1]
      simpa using hu
  · rw [if_neg hjk] at hu; cases hu

theorem cur_grown_eq {w W : World} {g : Nat} {bs : List Int} (h : Cur w g bs) (hg : g < w.heap.size) (hk : ∀ k, k < w.heap.size → W.heap[k]? = w.heap[k]?) (hs1 : W.os = w.os) (hs2 : W.tape = w.tape) (hs3 : W.output = w.output) (hs4 : w.heap.size ≤ W.heap.size) : Cur W g bs := by
  exact cur_grown (row := none) h ⟨hs1, hs2, hs3, hs4, fun k h1 _ => hk k h1⟩ (fun k e => by cases e)

theorem BR.text {W : World} {lo : Nat} {v : Value} {xs : List Int} (h : BR W lo v xs) : ∃ t : ByteArray, t.size = xs.length ∧ (convert 22 9 v).run Tryd.prog W = .ok (.string t) W := by
  obtain ⟨ao, cap, rfl, h⟩ := h
  rcases h with rfl | ⟨b, rfl, h1, h2, h3, h4⟩
  · exact ⟨⟨#[]⟩, rfl, Go.Proofs.run_convert_bytes_zero W 22 5 Tryd.underlying22 Tryd.underlying5 ao cap 9 Tryd.underlying9⟩
  · refine ⟨strOfNums xs, strOfNums_size xs, run_convert_bytes_arg W 22 5 Tryd.underlying22 Tryd.underlying5 b 0 xs.length cap xs rfl (fun i hi => ?_) 9 Tryd.underlying9⟩
    rw [Nat.zero_add, List.getD_eq_getElem?_getD, List.getElem?_eq_getElem hi]
    exact (h4 i xs[i] (by simp [hi])).1

theorem grown_new {a b c : World} {row r : Option Nat} (h : a.grownBy b row) (k : b.grownBy c r) (hr : ∀ q, r = some q → a.heap.size ≤ q) : a.grownBy c row :=
  ⟨k.os.trans h.os, k.tape.trans h.tape, k.output.trans h.output, Nat.le_trans h.size k.size, fun i hi hne => (k.block i (Nat.lt_of_lt_of_le hi h.size) (fun e => by have := hr i e.symm; omega)).trans (h.block i hi hne)⟩

/-- The loop's state: the cursor, the bytes. -/
structure BS (w : World) (g : Nat) (bs : List Int) (v : Value) (xs : List Int) (W : World) : Prop where
  cur : Cur W g bs
  gr : w.grownBy W (some g)
  br : BR W w.heap.size v xs

theorem BR.set {W : World} {lo b cap k : Nat} {c : Int} {xs : List Int} (h1 : lo ≤ b) (h2 : b < W.heap.size) (h3 : xs.length ≤ cap) (h4 : ∀ j x, xs[j]? = some x → W.cell? ⟨b, j, none⟩ = some (.int .u8 x) ∧ W.frozen? ⟨b, j, none⟩ = false) (hk : k < xs.length) :
    BR (W.setCell ⟨b, k, none⟩ (.int .u8 c)) lo (.slice (some ⟨b, 0, none⟩) xs.length cap) (xs.set k c) := by
  refine ⟨_, cap, by rw [List.length_set], .inr ⟨b, rfl, h1, by simpa using h2, by rw [List.length_set]; exact h3, fun j x hx => ?_⟩⟩
  rw [World.frozen?_setCell]
  have hj := (List.getElem?_eq_some_iff.1 hx).1
  rw [List.length_set] at hj
  refine ⟨?_, (h4 j xs[j] (by simp [hj])).2⟩
  by_cases hjk : j = k
  · subst hjk
    rw [World.cell?_setCell_same W _ _ (u := .int .u8 xs[j]) (h4 j xs[j] (by simp [hj])).1]
    rw [List.getElem?_set_self hj] at hx
    rw [Option.some.inj hx]
  · rw [World.cell?_setCell_other W _ _ _ (fun e => hjk (by simpa using e.symm))]
    rw [List.getElem?_set_ne (fun e => hjk e.symm)] at hx
    exact (h4 j x hx).1

theorem l1Bend (g : Nat) (bs : List Int) (s sg : ByteArray) (w : World) (hl : bs.length ≤ 1048576) (hc : Cur w g bs) (hs : s.size ≤ 1000000) (h1 : 0 < sg.size) (h2 : sg.size ≤ 256) :
    Calls Tryd.prog 20 #[.pointer (some ⟨g, 0, none⟩), .string s, .string sg] w fun e w' => ∃ t : ByteArray, e = .returned (.string t) ∧ t.size ≤ s.size + 2 ∧ Cur w' g bs ∧ w.grownBy w' (some g) := by
  obtain ⟨i0, hi, hz0, hz1, hz2⟩ := info_parts infoU8
  have hgw := curLt hc
  obtain ⟨capv, hcapv⟩ : ∃ c, grownCap w s.size 0 5 = c := ⟨_, rfl⟩
  have hcv := Lib.run_convert_string_bytes (P := Tryd.prog) w 9 22 5 s Tryd.underlying9 Tryd.underlying22 Tryd.underlying5
  rw [hcapv] at hcv
  obtain ⟨W1, hW1⟩ : ∃ W, Lib.bytesWorld w 5 s = W := ⟨_, rfl⟩
  rw [hW1] at hcv
  have hsz1 : W1.heap.size = w.heap.size + 1 := by rw [← hW1]; exact Lib.bytesWorld_size w _ s
  have hgr1 : w.grownBy W1 (some g) := by
    rw [← hW1]
    exact ⟨rfl, rfl, rfl, by rw [Lib.bytesWorld_size]; omega, fun k hk _ => Lib.bytesWorld_at_old w _ s k hk⟩
  have hcap : s.size ≤ capv := by rw [← hcapv]; exact grownCap_ge w s.size 0 _
  obtain ⟨xs0, hxs0⟩ : ∃ xs : List Int, xs = s.data.toList.map (fun b => (b.toNat : Int)) := ⟨_, rfl⟩
  have hlen0 : xs0.length = s.size := by rw [hxs0, List.length_map, Array.length_toList]; rfl
  have hbr1 : BR W1 w.heap.size (.slice (some ⟨w.heap.size, 0, none⟩) s.size capv) xs0 := by
    rw [← hlen0]
    refine ⟨_, capv, rfl, .inr ⟨w.heap.size, rfl, Nat.le_refl _, by omega, by omega, fun j x hx => ?_⟩⟩
    have hj := (List.getElem?_eq_some_iff.1 hx).1
    rw [← hW1]
    refine ⟨?_, ?_⟩
    · rw [Lib.bytesWorld_cell w _ s j (by omega)]
      rw [hxs0, List.getElem?_map] at hx
      cases e : s.data.toList[j]? with
      | none => rw [e] at hx; cases hx
      | some y =>
        rw [e] at hx
        have : (y.toNat : Int) = x := by simpa using hx
        rw [← this, List.getD_eq_getElem?_getD, e]
        rfl
    · have h9 := Lib.bytesWorld_at_new w 5 s
      have h8 : s.size ≤ (Lib.bytesCells w 5 s).size := by
        unfold Lib.bytesCells
        rw [Array.size_append, Array.size_map]
        exact Nat.le_add_right _ _
      unfold World.frozen?
      simp only [h9]
      simp
      omega
  have hcur1 : Cur W1 g bs := cur_grown_eq hc hgw (fun k hk => by rw [← hW1]; exact Lib.bytesWorld_at_old w _ s k hk) hgr1.os hgr1.tape hgr1.output hgr1.size
  have HB1 : Hid (BS w g bs (.slice (some ⟨w.heap.size, 0, none⟩) s.size capv) xs0 W1) := ⟨hcur1, hgr1, hbr1⟩
  have hb3 := l1Below g bs 3 (by omega) W1 hl hcur1
  clear hcapv hW1 hbr1 hgr1 hxs0 hcap hsz1
  have HL0 : Hid (xs0.length = s.size) := hlen0
  clear hlen0
  go_enter Tryd.func20, Tryd.ntmps20
  go_wp2_with fail
  go_at_call 33
  clear hcv
  refine hb3.mono ?_
  rintro e w2 ⟨z0, rfl, hz0', hz1', -, hc2, hg2⟩
  have hz3 := hz1' (by omega)
  have HB2 : Hid (BS w g bs (.slice (some ⟨w.heap.size, 0, none⟩) s.size capv) xs0 w2) := ⟨hc2, grown_trans HB1.out.gr hg2, HB1.out.br.grown hg2 hgw⟩
  clear hb3 hz1' hc2 hg2 hcur1 HB1 hc
  go_wp2_with fail
  go_loopw [7, 8] (fun v n wr => ∃ (xs : List Int) (z : Nat), n = .int .i64 (z : Int) ∧ xs.length + z ≤ s.size + 2 ∧ BS w g bs v xs wr) (fun _ n _ => (intOf n).toNat)
  case atStart => exact ⟨xs0, z0.toNat, by rw [Int.toNat_of_nonneg hz0'], by have := HL0.out; omega, HB2.out⟩
  case round =>
    obtain ⟨xs, z, rfl, hlen, hbs⟩ := hrel
    obtain ⟨wa, hwa⟩ : ∃ q, q = wr := ⟨_, rfl⟩
    subst hwa
    have HBS : Hid (BS w g bs u7 xs wa) := hbs
    obtain ⟨va, vc, hvv⟩ := hbs.br.slice
    obtain ⟨n, hn⟩ : ∃ n, xs.length = n := ⟨_, rfl⟩
    rw [hn] at hvv hlen
    subst hvv
    have HNN : Hid (xs.length = n) := hn
    have HLEN : Hid (n + z ≤ s.size + 2) := hlen
    clear hn
    clear hbs HB2 HL0 hz3 hz0' hlen
    by_cases hz : 0 < z
    rotate_left
    · obtain rfl : z = 0 := by omega
      obtain ⟨t9, ht9, hcs⟩ := HBS.out.br.text
      have HE : Hid (t9.size ≤ s.size + 2 ∧ Cur wa g bs ∧ w.grownBy wa (some g)) := ⟨by have := HLEN.out; have := HNN.out; omega, HBS.out.cur, HBS.out.gr⟩
      clear ht9
      go_wp2
      go_ret
      exact ⟨t9, rfl, HE.out.1, HE.out.2.1, HE.out.2.2⟩
    by_cases hx : 0 < n
    rotate_left
    · obtain rfl : n = 0 := by omega
      have hz' : (0 : Int) < (z : Int) := by omega
      obtain ⟨t9, ht9, hcs⟩ := HBS.out.br.text
      have HE : Hid (t9.size ≤ s.size + 2 ∧ Cur wa g bs ∧ w.grownBy wa (some g)) := ⟨by have := HLEN.out; have := HNN.out; omega, HBS.out.cur, HBS.out.gr⟩
      clear ht9
      go_wp2
      go_ret
      exact ⟨t9, rfl, HE.out.1, HE.out.2.1, HE.out.2.2⟩
    obtain ⟨b, rfl, hlo, hblt, hle, hcl⟩ := HBS.out.br.formN HNN.out hx
    have hz' : (0 : Int) < (z : Int) := by omega
    have hx' : (0 : Int) < (n : Int) := by omega
    have hl7 := l1Below g bs (n : Int) (by have := HLEN.out; omega) wa hl HBS.out.cur
    go_wp2_with fail
    go_at_call 33
    refine hl7.mono ?_
    rintro e w3 ⟨k0, rfl, hk0, hk1', -, hc3, hg3⟩
    obtain ⟨k, rfl⟩ := Int.eq_ofNat_of_zero_le hk0
    have hk : k < n := by have := hk1' hx'; omega
    have HB3 : Hid (BS w g bs (.slice (some ⟨b, 0, none⟩) n vc) xs w3) := ⟨hc3, grown_trans HBS.out.gr hg3, HBS.out.br.grown hg3 hgw⟩
    have hl8 := l1Below g bs 4 (by omega) w3 hl hc3
    clear hl7 hk1' hg3 hc3 hk0 hcl hblt HBS
    go_wp2_with fail
    go_at_call 33
    refine hl8.mono ?_
    rintro e w4 ⟨y, rfl, hy0, hy1', -, hc4, hg4⟩
    have hy4 := hy1' (by omega)
    have HB4 : Hid (BS w g bs (.slice (some ⟨b, 0, none⟩) n vc) xs w4) := ⟨hc4, grown_trans HB3.out.gr hg4, HB3.out.br.grown hg4 hgw⟩
    have hmz : IntKind.i64.wrap ((z : Int) - 1) = ((z - 1 : Nat) : Int) := by
      rw [show ((z - 1 : Nat) : Int) = (z : Int) - 1 by omega]
      exact IntWalk.i64_in _ (by have := HLEN.out; omega)
    have hmz2 : ((z - 1 : Nat) : Int) = (z : Int) - 1 := by omega
    clear hl8 hy1' hg4 hc4 HB3
    obtain rfl | rfl | rfl | rfl : y = 0 ∨ y = 1 ∨ y = 2 ∨ y = 3 := by omega
    · have hl9 := l1Below g bs (sg.size : Int) (by omega) w4 hl HB4.out.cur
      go_wp2_with fail
      go_at_call 33
      refine hl9.mono ?_
      rintro e w5 ⟨q, rfl, hq0, hq1', -, hc5, hg5⟩
      obtain ⟨c, hix⟩ := index_text sg q hq0 (hq1' (by omega))
      have HB5 : Hid (BS w g bs (.slice (some ⟨b, 0, none⟩) n vc) xs w5) := ⟨hc5, grown_trans HB4.out.gr hg5, HB4.out.br.grown hg5 hgw⟩
      obtain ⟨b', hsl, hlo', hblt', hle', hcl'⟩ := HB5.out.br.formN HNN.out hx
      obtain rfl : b = b' := by simpa using hsl
      have hkx : k < xs.length := by rw [HNN.out]; exact hk
      obtain ⟨xk, hxk⟩ : ∃ x, xs[k]? = some x := ⟨xs[k], by simp [hkx]⟩
      have hst := (hcl' k _ hxk).1
      have hfz := (hcl' k _ hxk).2
      have HN : Hid (BS w g bs (.slice (some ⟨b, 0, none⟩) n vc) (xs.set k c) (w5.setCell ⟨b, k, none⟩ (.int .u8 c))) :=
        ⟨curSet HB5.out.cur (by omega) _, grownSet HB5.out.gr hlo' _, by have h9 := BR.set (c := c) hlo' hblt' (by rw [HNN.out]; exact hle') hcl' hkx; rw [HNN.out] at h9; exact h9⟩
      have hki : (k : Int) < (n : Int) := by omega
      clear hl9 hq1' hc5 hg5 HB5 HB4 hcl' hsl hkx hxk
      go_wp2
      go_roundw
      case rel => exact ⟨xs.set k c, z - 1, by go_num, by rw [List.length_set, HNN.out]; have := HLEN.out; omega, HN.out⟩
      case measure => simp [intOf]; omega
    · have hpr := slice_pre b n vc k (by omega)
      have HN : Hid (BS w g bs (.slice (some ⟨b, 0, none⟩) k vc) (xs.take k) w4) := by
        refine ⟨HB4.out.cur, HB4.out.gr, ?_⟩
        obtain ⟨b', hsl, hlo', hblt', hle', hcl'⟩ := HB4.out.br.formN HNN.out hx
        obtain rfl : b = b' := by simpa using hsl
        have hlt : (xs.take k).length = k := by rw [List.length_take, HNN.out]; omega
        refine ⟨_, vc, by rw [hlt], .inr ⟨b, rfl, hlo', hblt', by rw [hlt]; omega, fun j x hx => ?_⟩⟩
        rw [List.getElem?_take] at hx
        by_cases hjk : j < k
        · rw [if_pos hjk] at hx; exact hcl' j x hx
        · rw [if_neg hjk] at hx; cases hx
      have hki : (k : Int) ≤ (vc : Int) := by omega
      clear HB4
      go_wp2
      go_roundw
      case rel => exact ⟨xs.take k, z - 1, by go_num, by rw [List.length_take, HNN.out]; have := HLEN.out; omega, HN.out⟩
      case measure => simp [intOf]; omega
    · obtain ⟨b', hsl, hlo', hblt', hle', hcl'⟩ := HB4.out.br.formN HNN.out hx
      obtain rfl : b = b' := by simpa using hsl
      clear hsl
      have hpr := slice_pre b n vc k (by omega)
      have hg4 := curLt HB4.out.cur
      have hw4 : w.heap.size ≤ w4.heap.size := HB4.out.gr.size
      have HCL : Hid _ := hcl'
      have HBL : Hid (b < w4.heap.size ∧ g < w.heap.size ∧ w.heap.size ≤ b) := ⟨hblt', hgw, hlo'⟩
      have HLT : Hid ((u8s (xs.take k)).length = k * 1) := by show (u8s (xs.take k)).length = k * 1; rw [List.length_map, List.length_take, HNN.out]; omega
      have hnb : n ≤ 1000002 := by have := HLEN.out; omega
      obtain ⟨to9, hif, hto⟩ := tail_if b n vc (k + 1) (by omega) (by omega)
      have hr1 : (0 : Int) ≤ (k : Int) + 1 := by omega
      have hr2 : (k : Int) + 1 ≤ (n : Int) := by omega
      have HLD : Hid ((u8s (xs.drop (k + 1))).length = (n - (k + 1)) * 1) := by show (u8s (xs.drop (k + 1))).length = _; rw [List.length_map, List.length_drop, HNN.out]; omega
      have HTO : Hid (to9 = k + 1 ∨ xs.length - (k + 1) = 0) := by show to9 = k + 1 ∨ _; rw [HNN.out]; exact hto
      have hkw : IntKind.i64.wrap ((k : Int) + 1) = ((k + 1 : Nat) : Int) := by rw [show ((k + 1 : Nat) : Int) = (k : Int) + 1 by omega]; exact IntWalk.i64_in _ (by omega)
      clear hcl' hto hmz2
      go_wp2_with fail
      refine wp_region_late (S := fun _ => True) (late := fun j => false) (by kernel_rfl) trivial (fun hHeld => ?_)
      refine wpAnyG_take (i := 1) (oi := ?oirq1) (v := .slice (some ⟨b, 0, none⟩) n vc) ?hirq1 (by kernel_rfl) (by kernel_rfl) (by kernel_rfl) (by kernel_rfl) ?hqrq1 ?hyrq1 hHeld ?hrrq1
      case hirq1 =>
        simp only [List.getElem?_toArray, List.getElem?_cons_succ, List.getElem?_cons_zero]
        rfl
      case hqrq1 => exact fun _ _ _ h => h
      case hyrq1 => exact Or.inl ⟨by kernel_rfl, fun w hSw => by go_simp⟩
      try simp only [Act.put, List.setIfInBounds_toArray, List.set_cons_zero, List.set_cons_succ]
      refine wpAnyG_take (i := 2) (oi := ?oirq2) (v := .int .i64 (k : Int)) ?hirq2 (by kernel_rfl) (by kernel_rfl) (by kernel_rfl) (by kernel_rfl) ?hqrq2 ?hyrq2 hHeld ?hrrq2
      case hirq2 =>
        simp only [List.getElem?_toArray, List.getElem?_cons_succ, List.getElem?_cons_zero]
        rfl
      case hqrq2 => exact fun _ _ _ h => h
      case hyrq2 => exact Or.inl ⟨by kernel_rfl, fun w hSw => by go_simp⟩
      try simp only [Act.put, List.setIfInBounds_toArray, List.set_cons_zero, List.set_cons_succ]
      refine wpAnyG_take (i := 3) (oi := ?oirq3) (v := .slice (some ⟨b, 0, none⟩) k vc) ?hirq3 (by kernel_rfl) (by kernel_rfl) (by kernel_rfl) (by kernel_rfl) ?hqrq3 ?hyrq3 hHeld ?hrrq3
      case hirq3 =>
        simp only [List.getElem?_toArray, List.getElem?_cons_succ, List.getElem?_cons_zero]
        rfl
      case hqrq3 => exact fun _ _ _ h => h
      case hyrq3 => exact Or.inl ⟨by kernel_rfl, fun w hSw => by go_simp⟩
      try simp only [Act.put, List.setIfInBounds_toArray, List.set_cons_zero, List.set_cons_succ]
      refine wpAnyG_take (i := 5) (oi := ?oirq5) (v := .slice (some ⟨b, 0, none⟩) n vc) ?hirq5 (by kernel_rfl) (by kernel_rfl) (by kernel_rfl) (by kernel_rfl) ?hqrq5 ?hyrq5 hHeld ?hrrq5
      case hirq5 =>
        simp only [List.getElem?_toArray, List.getElem?_cons_succ, List.getElem?_cons_zero]
        rfl
      case hqrq5 => exact fun _ _ _ h => h
      case hyrq5 => exact Or.inl ⟨by kernel_rfl, fun w hSw => by go_simp⟩
      try simp only [Act.put, List.setIfInBounds_toArray, List.set_cons_zero, List.set_cons_succ]
      refine wpAnyG_take (i := 6) (oi := ?oirq6) (v := .int .i64 (k : Int)) ?hirq6 (by kernel_rfl) (by kernel_rfl) (by kernel_rfl) (by kernel_rfl) ?hqrq6 ?hyrq6 hHeld ?hrrq6
      case hirq6 =>
        simp only [List.getElem?_toArray, List.getElem?_cons_succ, List.getElem?_cons_zero]
        rfl
      case hqrq6 => exact fun _ _ _ h => h
      case hyrq6 => exact Or.inl ⟨by kernel_rfl, fun w hSw => by go_simp⟩
      try simp only [Act.put, List.setIfInBounds_toArray, List.set_cons_zero, List.set_cons_succ]
      refine wpAnyG_take (i := 7) (oi := ?oirq7) (v := .int .i64 ((k + 1 : Nat) : Int)) ?hirq7 (by kernel_rfl) (by kernel_rfl) (by kernel_rfl) (by kernel_rfl) ?hqrq7 ?hyrq7 hHeld ?hrrq7
      case hirq7 =>
        simp only [List.getElem?_toArray, List.getElem?_cons_succ, List.getElem?_cons_zero]
        rfl
      case hqrq7 => exact fun _ _ _ h => h
      case hyrq7 => exact Or.inl ⟨by kernel_rfl, fun w hSw => by go_simp⟩
      try simp only [Act.put, List.setIfInBounds_toArray, List.set_cons_zero, List.set_cons_succ]
      refine wpAnyG_take (i := 8) (oi := ?oirq8) (v := .slice (some ⟨b, to9, none⟩) (n - (k + 1)) (vc - (k + 1))) ?hirq8 (by kernel_rfl) (by kernel_rfl) (by kernel_rfl) (by kernel_rfl) ?hqrq8 ?hyrq8 hHeld ?hrrq8
      case hirq8 =>
        simp only [List.getElem?_toArray, List.getElem?_cons_succ, List.getElem?_cons_zero]
        rfl
      case hqrq8 => exact fun _ _ _ h => h
      case hyrq8 => exact Or.inl ⟨by kernel_rfl, fun w hSw => by go_simp⟩
      try simp only [Act.put, List.setIfInBounds_toArray, List.set_cons_zero, List.set_cons_succ]
      refine wpAnyG_ready (rs := [0]) (by kernel_rfl) (by simp) ?_
      refine (AllReadyG.cons (o := ?oorq0) ?horq0 (fun K hK => ?hkrq0) AllReadyG.nil)
      case horq0 =>
        simp only [List.getElem?_toArray, List.getElem?_cons_succ, List.getElem?_cons_zero]
        rfl
      case hkrq0 =>
        go_simp
        try go_wp2_with fail
        have Ba : Hid (Below w4.heap.size w4 (w4.drew.alloc (.cells #[] 5))) := Below.alloc (Below.drew (Below.refl _ _)) (Nat.le_refl _) _
        have Va : Hid ((w4.drew.alloc (.cells #[] 5)).ownsRow w4.heap.size 5 1 (.slice (some ⟨w4.heap.size, 0, none⟩) 0 0) 0 []) := World.ownsRow_made w4.drew #[] 0 (Nat.le_refl _) (by decide) (by simp)
        refine hK.out _ _ (Or.inr trivial) (fun hHeld => ?_)
        replace hHeld := hHeld.resolve_left (by decide)
        clear hK K
        try simp only [Act.put, List.setIfInBounds_toArray, List.set_cons_zero, List.set_cons_succ]
        refine wpAnyG_ready (rs := [4]) (by kernel_rfl) (by simp) ?_
        refine (AllReadyG.cons (o := ?oorq4) ?horq4 (fun K hK => ?hkrq4) AllReadyG.nil)
        case horq4 =>
          simp only [List.getElem?_toArray, List.getElem?_cons_succ, List.getElem?_cons_zero]
          rfl
        case hkrq4 =>
          refine step_append_any _ rfl (.tmp 47) (.tmp 50) 22 rfl w4.heap.size 5 i0 (.int .u8 0) 1 1 Tryd.underlying22 hi hz0 hz1 hz2 rfl (by decide) (.slice (some ⟨w4.heap.size, 0, none⟩) 0 0) (0) [] rfl Va.out (some ⟨b, 0, none⟩) (k) vc (u8s (xs.take k)) rfl HLT.out (fun _ => ⟨_, rfl, BR.newsT HCL.out _ (Ba.out.block b HBL.out.1)⟩) (u8s_one _) (by unfold maxLen; omega) (by omega) Ba.out.size ?_
          intro v7 w7 own7 grow7 fq7
          rw [Nat.zero_add, List.nil_append] at own7
          have B7 : Hid (Below w4.heap.size w4 w7) := Ba.out.grown grow7 Ba.out.size (fun q hq => by simp [Value.ownBlock] at hq; omega)
          have V7 : Hid (w7.ownsRow w4.heap.size 5 1 v7 k (u8s (xs.take k))) := own7
          clear own7 grow7 fq7
          refine hK.out _ _ (Or.inr trivial) (fun hHeld => ?_)
          replace hHeld := hHeld.resolve_left (by decide)
          clear hK K
          try simp only [Act.put, List.setIfInBounds_toArray, List.set_cons_zero, List.set_cons_succ]
          refine wpAnyG_ready (rs := [9]) (by kernel_rfl) (by simp) ?_
          refine (AllReadyG.cons (o := ?oorq9) ?horq9 (fun K hK => ?hkrq9) AllReadyG.nil)
          case horq9 =>
            simp only [List.getElem?_toArray, List.getElem?_cons_succ, List.getElem?_cons_zero]
            rfl
          case hkrq9 =>
            refine step_append_any _ rfl (.tmp 51) (.tmp 55) 22 rfl w4.heap.size 5 i0 (.int .u8 0) 1 1 Tryd.underlying22 hi hz0 hz1 hz2 rfl (by decide) v7 (k) (u8s (xs.take k)) rfl V7.out (some ⟨b, to9, none⟩) (n - (k + 1)) (vc - (k + 1)) (u8s (xs.drop (k + 1))) rfl HLD.out (fun _ => ⟨_, rfl, BR.news (cap := vc) HCL.out HTO.out _ (B7.out.block b HBL.out.1)⟩) (u8s_one _) (by unfold maxLen; omega) (by omega) B7.out.size ?_
            intro v8 w8 own8 grow8 fq8
            rw [u8s_append] at own8
            have B8 : Below w4.heap.size w4 w8 := B7.out.grown grow8 B7.out.size (fun q hq => (V7.out.lt q hq).1)
            have HLL : Hid ((xs.take k ++ xs.drop (k + 1)).length = k + (n - (k + 1))) := by show (xs.take k ++ xs.drop (k + 1)).length = _; rw [List.length_append, List.length_take, List.length_drop, HNN.out]; omega
            have HN : Hid (BS w g bs v8 (xs.take k ++ xs.drop (k + 1)) w8) := ⟨cur_below HB4.out.cur B8, grown_trans HB4.out.gr (grown_of_below B8 _), BR.of_own (own_mono own8 HB4.out.gr.size) HLL.out.symm⟩
            clear own8 grow8 fq8 B8
            refine hK.out _ _ (Or.inr trivial) (fun hHeld => ?_)
            replace hHeld := hHeld.resolve_left (by decide)
            clear hK K
            try simp only [Act.put, List.setIfInBounds_toArray, List.set_cons_zero, List.set_cons_succ]
            refine wpAnyG_take (i := 10) (oi := ?oirq10) (v := v8) ?hirq10 (by kernel_rfl) (by kernel_rfl) (by kernel_rfl) (by kernel_rfl) ?hqrq10 ?hyrq10 hHeld ?hrrq10
            case hirq10 =>
              simp only [List.getElem?_toArray, List.getElem?_cons_succ, List.getElem?_cons_zero]
              rfl
            case hqrq10 => exact fun _ _ _ h => h
            case hyrq10 => exact Or.inl ⟨by kernel_rfl, fun w hSw => by go_simp⟩
            try simp only [Act.put, List.setIfInBounds_toArray, List.set_cons_zero, List.set_cons_succ]
            refine wpAnyG_done (by kernel_rfl) ?_ _
            clear V7 B7 Va Ba HCL
            go_wp2
            go_roundw
            case rel => exact ⟨xs.take k ++ xs.drop (k + 1), z - 1, by go_num, by rw [HLL.out]; have := HLEN.out; omega, HN.out⟩
            case measure => simp [intOf]; omega
    · obtain ⟨b', hsl, hlo', hblt', hle', hcl'⟩ := HB4.out.br.formN HNN.out hx
      obtain rfl : b = b' := by simpa using hsl
      clear hsl
      have hpr := slice_pre b n vc k (by omega)
      have hg4 := curLt HB4.out.cur
      have hw4 : w.heap.size ≤ w4.heap.size := HB4.out.gr.size
      have HCL : Hid _ := hcl'
      have HBL : Hid (b < w4.heap.size ∧ g < w.heap.size ∧ w.heap.size ≤ b) := ⟨hblt', hgw, hlo'⟩
      have HLT : Hid ((u8s (xs.take k)).length = k * 1) := by show (u8s (xs.take k)).length = k * 1; rw [List.length_map, List.length_take, HNN.out]; omega
      have hnb : n ≤ 1000002 := by have := HLEN.out; omega
      obtain ⟨to9, hif, hto⟩ := tail_if b n vc k (by omega) (by omega)
      have hr1 : (0 : Int) ≤ (k : Int) := by omega
      have hr2 : (k : Int) ≤ (n : Int) := by omega
      have HLD : Hid ((u8s (xs.drop k)).length = (n - k) * 1) := by show (u8s (xs.drop k)).length = _; rw [List.length_map, List.length_drop, HNN.out]; omega
      have HTO : Hid (to9 = k ∨ xs.length - k = 0) := by show to9 = k ∨ _; rw [HNN.out]; exact hto
      have GW0 : Hid (w4.grownBy w4.drew (some g)) := by have h := World.grownBy.refl w4 (some g); exact ⟨h.os, h.tape, h.output, h.size, h.block⟩
      have CU0 : Hid (Cur w4.drew g bs) := cur_below HB4.out.cur (Below.drew (Below.refl _ _))
      clear hcl' hto hmz2
      go_wp2_with fail
      refine wp_region_late (S := fun _ => True) (late := fun j => false) (by kernel_rfl) trivial (fun hHeld => ?_)
      refine wpAnyG_take (i := 1) (oi := ?oirp1) (v := .slice (some ⟨b, 0, none⟩) n vc) ?hirp1 (by kernel_rfl) (by kernel_rfl) (by kernel_rfl) (by kernel_rfl) ?hqrp1 ?hyrp1 hHeld ?hrrp1
      case hirp1 =>
        simp only [List.getElem?_toArray, List.getElem?_cons_succ, List.getElem?_cons_zero]
        rfl
      case hqrp1 => exact fun _ _ _ h => h
      case hyrp1 => exact Or.inl ⟨by kernel_rfl, fun w hSw => by go_simp⟩
      try simp only [Act.put, List.setIfInBounds_toArray, List.set_cons_zero, List.set_cons_succ]
      refine wpAnyG_take (i := 2) (oi := ?oirp2) (v := .int .i64 (k : Int)) ?hirp2 (by kernel_rfl) (by kernel_rfl) (by kernel_rfl) (by kernel_rfl) ?hqrp2 ?hyrp2 hHeld ?hrrp2
      case hirp2 =>
        simp only [List.getElem?_toArray, List.getElem?_cons_succ, List.getElem?_cons_zero]
        rfl
      case hqrp2 => exact fun _ _ _ h => h
      case hyrp2 => exact Or.inl ⟨by kernel_rfl, fun w hSw => by go_simp⟩
      try simp only [Act.put, List.setIfInBounds_toArray, List.set_cons_zero, List.set_cons_succ]
      refine wpAnyG_take (i := 3) (oi := ?oirp3) (v := .slice (some ⟨b, 0, none⟩) k vc) ?hirp3 (by kernel_rfl) (by kernel_rfl) (by kernel_rfl) (by kernel_rfl) ?hqrp3 ?hyrp3 hHeld ?hrrp3
      case hirp3 =>
        simp only [List.getElem?_toArray, List.getElem?_cons_succ, List.getElem?_cons_zero]
        rfl
      case hqrp3 => exact fun _ _ _ h => h
      case hyrp3 => exact Or.inl ⟨by kernel_rfl, fun w hSw => by go_simp⟩
      try simp only [Act.put, List.setIfInBounds_toArray, List.set_cons_zero, List.set_cons_succ]
      refine wpAnyG_take (i := 5) (oi := ?oirp5) (v := .string sg) ?hirp5 (by kernel_rfl) (by kernel_rfl) (by kernel_rfl) (by kernel_rfl) ?hqrp5 ?hyrp5 hHeld ?hrrp5
      case hirp5 =>
        simp only [List.getElem?_toArray, List.getElem?_cons_succ, List.getElem?_cons_zero]
        rfl
      case hqrp5 => exact fun _ _ _ h => h
      case hyrp5 => exact Or.inl ⟨by kernel_rfl, fun w hSw => by go_simp⟩
      try simp only [Act.put, List.setIfInBounds_toArray, List.set_cons_zero, List.set_cons_succ]
      refine wpAnyG_take (i := 6) (oi := ?oirp6) (v := .pointer (some ⟨g, 0, none⟩)) ?hirp6 (by kernel_rfl) (by kernel_rfl) (by kernel_rfl) (by kernel_rfl) ?hqrp6 ?hyrp6 hHeld ?hrrp6
      case hirp6 =>
        simp only [List.getElem?_toArray, List.getElem?_cons_succ, List.getElem?_cons_zero]
        rfl
      case hqrp6 => exact fun _ _ _ h => h
      case hyrp6 => exact Or.inl ⟨by kernel_rfl, fun w hSw => by go_simp⟩
      try simp only [Act.put, List.setIfInBounds_toArray, List.set_cons_zero, List.set_cons_succ]
      refine wpAnyG_take (i := 7) (oi := ?oirp7) (v := .string sg) ?hirp7 (by kernel_rfl) (by kernel_rfl) (by kernel_rfl) (by kernel_rfl) ?hqrp7 ?hyrp7 hHeld ?hrrp7
      case hirp7 =>
        simp only [List.getElem?_toArray, List.getElem?_cons_succ, List.getElem?_cons_zero]
        rfl
      case hqrp7 => exact fun _ _ _ h => h
      case hyrp7 => exact Or.inl ⟨by kernel_rfl, fun w hSw => by go_simp⟩
      try simp only [Act.put, List.setIfInBounds_toArray, List.set_cons_zero, List.set_cons_succ]
      refine wpAnyG_take (i := 8) (oi := ?oirp8) (v := .int .i64 (sg.size : Int)) ?hirp8 (by kernel_rfl) (by kernel_rfl) (by kernel_rfl) (by kernel_rfl) ?hqrp8 ?hyrp8 hHeld ?hrrp8
      case hirp8 =>
        simp only [List.getElem?_toArray, List.getElem?_cons_succ, List.getElem?_cons_zero]
        rfl
      case hqrp8 => exact fun _ _ _ h => h
      case hyrp8 => exact Or.inl ⟨by kernel_rfl, fun w hSw => by go_simp⟩
      try simp only [Act.put, List.setIfInBounds_toArray, List.set_cons_zero, List.set_cons_succ]
      refine wpAnyG_take (i := 13) (oi := ?oirp13) (v := .slice (some ⟨b, 0, none⟩) n vc) ?hirp13 (by kernel_rfl) (by kernel_rfl) (by kernel_rfl) (by kernel_rfl) ?hqrp13 ?hyrp13 hHeld ?hrrp13
      case hirp13 =>
        simp only [List.getElem?_toArray, List.getElem?_cons_succ, List.getElem?_cons_zero]
        rfl
      case hqrp13 => exact fun _ _ _ h => h
      case hyrp13 => exact Or.inl ⟨by kernel_rfl, fun w hSw => by go_simp⟩
      try simp only [Act.put, List.setIfInBounds_toArray, List.set_cons_zero, List.set_cons_succ]
      refine wpAnyG_take (i := 14) (oi := ?oirp14) (v := .int .i64 (k : Int)) ?hirp14 (by kernel_rfl) (by kernel_rfl) (by kernel_rfl) (by kernel_rfl) ?hqrp14 ?hyrp14 hHeld ?hrrp14
      case hirp14 =>
        simp only [List.getElem?_toArray, List.getElem?_cons_succ, List.getElem?_cons_zero]
        rfl
      case hqrp14 => exact fun _ _ _ h => h
      case hyrp14 => exact Or.inl ⟨by kernel_rfl, fun w hSw => by go_simp⟩
      try simp only [Act.put, List.setIfInBounds_toArray, List.set_cons_zero, List.set_cons_succ]
      refine wpAnyG_take (i := 15) (oi := ?oirp15) (v := .slice (some ⟨b, to9, none⟩) (n - k) (vc - k)) ?hirp15 (by kernel_rfl) (by kernel_rfl) (by kernel_rfl) (by kernel_rfl) ?hqrp15 ?hyrp15 hHeld ?hrrp15
      case hirp15 =>
        simp only [List.getElem?_toArray, List.getElem?_cons_succ, List.getElem?_cons_zero]
        rfl
      case hqrp15 => exact fun _ _ _ h => h
      case hyrp15 => exact Or.inl ⟨by kernel_rfl, fun w hSw => by go_simp⟩
      try simp only [Act.put, List.setIfInBounds_toArray, List.set_cons_zero, List.set_cons_succ]
      refine wpAnyG_ready (rs := [0]) (by kernel_rfl) (by simp) ?_
      refine (AllReadyG.cons (o := ?oorp0) ?horp0 (fun K hK => ?hkrp0) AllReadyG.nil)
      case horp0 =>
        simp only [List.getElem?_toArray, List.getElem?_cons_succ, List.getElem?_cons_zero]
        rfl
      case hkrp0 =>
        go_simp
        try go_wp2_with fail
        have GW1 : Hid (w4.grownBy (w4.drew.alloc (.cells #[] 5)) (some g)) := grownAlloc GW0.out _
        have CU1 : Hid (Cur (w4.drew.alloc (.cells #[] 5)) g bs) := curAlloc CU0.out _
        have VA1 : Hid ((w4.drew.alloc (.cells #[] 5)).ownsRow w4.heap.size 5 1 (.slice (some ⟨w4.heap.size, 0, none⟩) 0 0) 0 []) := World.ownsRow_made (w4.drew) #[] 0 (by simp) (by decide) (by simp)
        refine hK.out _ _ (Or.inr trivial) (fun hHeld => ?_)
        replace hHeld := hHeld.resolve_left (by decide)
        clear hK K
        try simp only [Act.put, List.setIfInBounds_toArray, List.set_cons_zero, List.set_cons_succ]
        refine wpAnyG_ready (rs := [4]) (by kernel_rfl) (by simp) ?_
        refine (AllReadyG.cons (o := ?oorp4) ?horp4 (fun K hK => ?hkrp4) AllReadyG.nil)
        case horp4 =>
          simp only [List.getElem?_toArray, List.getElem?_cons_succ, List.getElem?_cons_zero]
          rfl
        case hkrp4 =>
          refine step_append_any _ rfl (.tmp 59) (.tmp 62) 22 rfl w4.heap.size 5 i0 (.int .u8 0) 1 1 Tryd.underlying22 hi hz0 hz1 hz2 rfl (by decide) (.slice (some ⟨w4.heap.size, 0, none⟩) 0 0) (0) [] rfl VA1.out (some ⟨b, 0, none⟩) (k) vc (u8s (xs.take k)) rfl HLT.out (fun _ => ⟨_, rfl, BR.newsT HCL.out _ (GW1.out.block b HBL.out.1 (by have := HBL.out; simp; omega))⟩) (u8s_one _) (by unfold maxLen; omega) (by omega) GW1.out.size ?_
          intro v2 x2 own7 grow7 fq7
          rw [Nat.zero_add, List.nil_append] at own7
          have GW2 : Hid (w4.grownBy x2 (some g)) := grown_new GW1.out grow7 (fun q hq => (VA1.out.lt q hq).1)
          have CU2 : Hid (Cur x2 g bs) := cur_grown CU1.out grow7 (fun q hq => by have h1 := (VA1.out.lt q hq).1; have h2 := HBL.out; omega)
          have VB2 : Hid (x2.ownsRow w4.heap.size 5 1 v2 k (u8s (xs.take k))) := own7
          clear own7 grow7 fq7
          refine hK.out _ _ (Or.inr trivial) (fun hHeld => ?_)
          replace hHeld := hHeld.resolve_left (by decide)
          clear hK K
          try simp only [Act.put, List.setIfInBounds_toArray, List.set_cons_zero, List.set_cons_succ]
          refine wpAnyG_ready (rs := [9]) (by kernel_rfl) (by simp) ?_
          refine (AllReadyG.cons (o := ?oorp9) ?horp9 (fun K hK => ?hkrp9) AllReadyG.nil)
          case horp9 =>
            simp only [List.getElem?_toArray, List.getElem?_cons_succ, List.getElem?_cons_zero]
            rfl
          case hkrp9 =>
            go_simp
            go_at_call 33
            refine (l1Below g bs (sg.size : Int) (by omega) _ hl CU2.out).mono ?_
            rintro e x3 ⟨q, rfl, hq0, hq1, -, hcc, hgg⟩
            obtain ⟨c, hix⟩ := index_text sg q hq0 (hq1 (by omega))
            have CU3 : Hid (Cur x3 g bs) := hcc
            have GW3 : Hid (w4.grownBy (x3) (some g)) := grown_trans GW2.out hgg
            have VB3 : Hid ((x3).ownsRow w4.heap.size 5 1 v2 k (u8s (xs.take k))) := own_grown VB2.out hgg (fun q hq e => by have h1 := (VB2.out.lt q hq).1; have h2 := HBL.out; have h3 : g = q := (by simpa using e); omega)
            clear hcc hgg hq1
            try go_wp2_with fail
            refine hK.out _ _ (Or.inr trivial) (fun hHeld => ?_)
            replace hHeld := hHeld.resolve_left (by decide)
            clear hK K
            try simp only [Act.put, List.setIfInBounds_toArray, List.set_cons_zero, List.set_cons_succ]
            refine wpAnyG_take (i := 10) (oi := ?oirp10) (v := .int .u8 c) ?hirp10 (by kernel_rfl) (by kernel_rfl) (by kernel_rfl) (by kernel_rfl) ?hqrp10 ?hyrp10 hHeld ?hrrp10
            case hirp10 =>
              simp only [List.getElem?_toArray, List.getElem?_cons_succ, List.getElem?_cons_zero]
              rfl
            case hqrp10 => exact fun _ _ _ h => h
            case hyrp10 => exact Or.inl ⟨by kernel_rfl, fun w hSw => by go_simp⟩
            try simp only [Act.put, List.setIfInBounds_toArray, List.set_cons_zero, List.set_cons_succ]
            refine wpAnyG_ready (rs := [11]) (by kernel_rfl) (by simp) ?_
            refine (AllReadyG.cons (o := ?oorp11) ?horp11 (fun K hK => ?hkrp11) AllReadyG.nil)
            case horp11 =>
              simp only [List.getElem?_toArray, List.getElem?_cons_succ, List.getElem?_cons_zero]
              rfl
            case hkrp11 =>
              go_simp
              try go_wp2_with fail
              have GW4 : Hid (w4.grownBy (x3.alloc (.cells #[.int .u8 c] 5)) (some g)) := grownAlloc GW3.out _
              have CU4 : Hid (Cur (x3.alloc (.cells #[.int .u8 c] 5)) g bs) := curAlloc CU3.out _
              have VB4 : Hid ((x3.alloc (.cells #[.int .u8 c] 5)).ownsRow w4.heap.size 5 1 v2 k (u8s (xs.take k))) := VB3.out.alloc _
              have DD4 : Hid ((x3.alloc (.cells #[.int .u8 c] 5)).heap[x3.heap.size]? = some (.cells #[.int .u8 c] 5 (0, 0))) := by have e : (x3).heap.size = x3.heap.size := (by simp); have h := heap_alloc_new (x3) (.cells #[.int .u8 c] 5); first | exact h | (rw [e] at h; exact h)
              refine hK.out _ _ (Or.inr trivial) (fun hHeld => ?_)
              replace hHeld := hHeld.resolve_left (by decide)
              clear hK K
              try simp only [Act.put, List.setIfInBounds_toArray, List.set_cons_zero, List.set_cons_succ]
              refine wpAnyG_ready (rs := [12]) (by kernel_rfl) (by simp) ?_
              refine (AllReadyG.cons (o := ?oorp12) ?horp12 (fun K hK => ?hkrp12) AllReadyG.nil)
              case horp12 =>
                simp only [List.getElem?_toArray, List.getElem?_cons_succ, List.getElem?_cons_zero]
                rfl
              case hkrp12 =>
                refine step_append_any _ rfl (.tmp 63) (.tmp 70) 22 rfl w4.heap.size 5 i0 (.int .u8 0) 1 1 Tryd.underlying22 hi hz0 hz1 hz2 rfl (by decide) v2 (k) (u8s (xs.take k)) rfl VB4.out (some ⟨x3.heap.size, 0, none⟩) (1) 1 (u8s [c]) rfl (by simp [u8s]) (fun _ => ⟨_, rfl, World.news_of_block DD4.out⟩) (u8s_one _) (by unfold maxLen; omega) (by omega) GW4.out.size ?_
                intro v8 w8 own8 grow8 fq8
                rw [u8s_append] at own8
                have GW8 : Hid (w4.grownBy w8 (some g)) := grown_new GW4.out grow8 (fun q hq => (VB4.out.lt q hq).1)
                have CU8 : Hid (Cur w8 g bs) := cur_grown CU4.out grow8 (fun q hq => by have h1 := (VB4.out.lt q hq).1; have h2 := HBL.out; omega)
                have V8 : Hid (w8.ownsRow w4.heap.size 5 1 v8 (k + 1) (u8s (xs.take k ++ [c]))) := own8
                clear own8 grow8 fq8
                refine hK.out _ _ (Or.inr trivial) (fun hHeld => ?_)
                replace hHeld := hHeld.resolve_left (by decide)
                clear hK K
                try simp only [Act.put, List.setIfInBounds_toArray, List.set_cons_zero, List.set_cons_succ]
                refine wpAnyG_ready (rs := [16]) (by kernel_rfl) (by simp) ?_
                refine (AllReadyG.cons (o := ?oorp16) ?horp16 (fun K hK => ?hkrp16) AllReadyG.nil)
                case horp16 =>
                  simp only [List.getElem?_toArray, List.getElem?_cons_succ, List.getElem?_cons_zero]
                  rfl
                case hkrp16 =>
                  refine step_append_any _ rfl (.tmp 71) (.tmp 74) 22 rfl w4.heap.size 5 i0 (.int .u8 0) 1 1 Tryd.underlying22 hi hz0 hz1 hz2 rfl (by decide) v8 (k + 1) (u8s (xs.take k ++ [c])) rfl V8.out (some ⟨b, to9, none⟩) (n - k) (vc - k) (u8s (xs.drop k)) rfl HLD.out (fun _ => ⟨_, rfl, BR.news (cap := vc) HCL.out HTO.out _ (GW8.out.block b HBL.out.1 (by have := HBL.out; simp; omega))⟩) (u8s_one _) (by unfold maxLen; omega) (by omega) GW8.out.size ?_
                  intro v9 w9 own9 grow9 fq9
                  rw [u8s_append] at own9
                  have HLL : Hid ((xs.take k ++ [c] ++ xs.drop k).length = k + 1 + (n - k)) := by show (xs.take k ++ [c] ++ xs.drop k).length = _; rw [List.length_append, List.length_append, List.length_take, List.length_drop, HNN.out, List.length_singleton]; omega
                  have HN : Hid (BS w g bs v9 (xs.take k ++ [c] ++ xs.drop k) w9) := ⟨cur_grown CU8.out grow9 (fun q hq => by have h1 := (V8.out.lt q hq).1; have h2 := HBL.out; omega), grown_trans HB4.out.gr (grown_new GW8.out grow9 (fun q hq => (V8.out.lt q hq).1)), BR.of_own (own_mono own9 HB4.out.gr.size) HLL.out.symm⟩
                  clear own9 grow9 fq9
                  refine hK.out _ _ (Or.inr trivial) (fun hHeld => ?_)
                  replace hHeld := hHeld.resolve_left (by decide)
                  clear hK K
                  try simp only [Act.put, List.setIfInBounds_toArray, List.set_cons_zero, List.set_cons_succ]
                  refine wpAnyG_take (i := 17) (oi := ?oirp17) (v := v9) ?hirp17 (by kernel_rfl) (by kernel_rfl) (by kernel_rfl) (by kernel_rfl) ?hqrp17 ?hyrp17 hHeld ?hrrp17
                  case hirp17 =>
                    simp only [List.getElem?_toArray, List.getElem?_cons_succ, List.getElem?_cons_zero]
                    rfl
                  case hqrp17 => exact fun _ _ _ h => h
                  case hyrp17 => exact Or.inl ⟨by kernel_rfl, fun w hSw => by go_simp⟩
                  try simp only [Act.put, List.setIfInBounds_toArray, List.set_cons_zero, List.set_cons_succ]
                  refine wpAnyG_done (by kernel_rfl) ?_ _
                  clear V8 GW8 CU8 HCL
                  go_wp2
                  go_roundw
                  case rel => exact ⟨xs.take k ++ [c] ++ xs.drop k, z - 1, by go_num, by rw [HLL.out]; have := HLEN.out; omega, HN.out⟩
                  case measure => simp [intOf]; omega

end Go.Proofs.YtjdmmpdcafbneaaDoor
