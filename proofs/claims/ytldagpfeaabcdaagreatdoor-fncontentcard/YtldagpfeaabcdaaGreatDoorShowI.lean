/-
 impl.writeBetween, impl.toldNumbers, impl.writeStmt, impl.ShowProgram.
-/
import Derived.Test.YtldagpfeaabcdaaGreatDoorG32Bld
namespace Go.Proofs.YtldagpfeaabcdaaGreatDoor
open Go.RowKit
set_option linter.unusedVariables false
set_option linter.unusedSimpArgs false
set_option maxHeartbeats 4000000
set_option maxRecDepth 20000
theorem Wrote.block {b : Nat} {w w' : World} (h : Wrote b w w') {k : Nat} {cs : Array Value} {t : TypeId} {fz : Nat × Nat} (hk : w.heap[k]? = some (.cells cs t fz)) (hb : k ≠ b) (ht : t ≠ 5) : w'.heap[k]? = some (.cells cs t fz) :=
 h.2 k _ hk (fun e => hb (Option.some.inj e)) (fun c f e => by injection e with _ e2 _; exact ht e2)
theorem Wrote.own {b : Nat} {w w' : World} (h : Wrote b w w') {base : Nat} {e : TypeId} {s : Nat} {v : Value} {n : Nat} {xs : List Value} (ho : w.ownsRow base e s v n xs) (hb : b < base) (he : e ≠ 5) : w'.ownsRow base e s v n xs := by
 refine ⟨ho.1, ?_⟩
 rcases ho.2 with hn | ⟨g, cap, cur, rfl, hbg, hg, r⟩
 · exact .inl hn
 · exact .inr ⟨g, cap, cur, rfl, hbg, h.block hg (by omega) he, r⟩
theorem Bld.below {b : Nat} {l : List UInt8} {w w' : World} (h : Bld b l w) (hb : Below w.heap.size w w') : Bld b l w' := by
 have key : ∀ p, Lib.BuilderAtF 94 5 b b p (Lib.byteCells l) w → Lib.BuilderAtF 94 5 b b p (Lib.byteCells l) w' := by
  rintro p ⟨h1, v, h2, h3, h4⟩
  refine ⟨h1, v, (hb.block b (Array.getElem?_eq_some_iff.1 h2).1).trans h2, h3.kept (jb3 hb none) ?_, h4⟩
  cases hv : v.ownBlock with
  | none => exact .inl rfl
  | some k => exact .inr (by simp)
 exact h.elim (fun x => .inl (key _ x)) (fun x => .inr (key _ x))
theorem Wrote.below {b : Nat} {w w1 w2 : World} (h : Wrote b w w1) (k : Below w1.heap.size w1 w2) (hb : b ≤ w1.heap.size) : Wrote b w w2 :=
 ⟨h.1.trans (k.mono hb), fun i o hi hne ht => (k.block i (Array.getElem?_eq_some_iff.1 (h.2 i o hi hne ht)).1).trans (h.2 i o hi hne ht)⟩
theorem writeBetween (b : Nat) (l : List UInt8) (n : Nat) (c : UInt8) (w : World) (h : Bld b l w) (hlen : l.length ≤ 100000) (hb : b < w.heap.size) :
 Calls Tryz.prog 61 #[.pointer (some ⟨b, 0, none⟩), .int .i64 (n : Int), .int .u8 (c.toNat : Int)] w fun e w' => e = .returned (.tuple #[]) ∧ Bld b (if n = 0 then l else l ++ [c]) w' ∧ Wrote b w w' := by
 have hw := bldByte b l c w h (by omega) hb
 by_cases hn : n = 0
 · subst hn
   have HH : Hid (Bld b l w) := h
   clear hw h
   go_enter Tryz.func61, Tryz.ntmps61
   go_wp2
   go_end0
   exact ⟨rfl, HH.out, Wrote.refl _ _⟩
 · rw [if_neg hn]
   have hn' : (0 : Int) < (n : Int) := by omega
   go_enter Tryz.func61, Tryz.ntmps61
   go_wp2_with fail
   go_at_call 80
   refine hw.mono ?_
   rintro e w1 ⟨rfl, h1, h2⟩
   clear hw
   go_wp2
   go_end0
   exact ⟨rfl, h1, h2⟩
theorem jt7 (W : World) (b : Nat) (xs : List Int) (h : b ≤ W.heap.size) (hx : xs.length ≤ 100) :
 (W.alloc (.cells (ints xs).toArray 2)).ownsRow b 2 1 (.slice (some ⟨W.heap.size, 0, none⟩) xs.length xs.length) xs.length (ints xs) :=
 jc4 (World.ownsRow_lit W (e := 2) (ints xs).toArray xs.length (size := 1) (Nat.le_refl _) (by unfold maxLen; omega) (by simp [ints])) h
theorem toldNumbers (s : Stm) (w : World) (hok : jd7 s.k s.x s.y = true) :
 Calls Tryz.prog 81 #[.agg #[.int .i64 s.k, .int .i64 s.x, .int .i64 s.y]] w fun e w' => ∃ u, e = .returned u ∧ w'.ownsRow w.heap.size 2 1 u (told s).length (ints (told s)) ∧ Below w.heap.size w w' := by
 obtain ⟨hk1, hk9, _, _, _, _⟩ := jo0 hok
 obtain ⟨k, x, y⟩ := s
 simp only at *
 obtain rfl | rfl | rfl | rfl | rfl | rfl | rfl | rfl | rfl : k = 1 ∨ k = 2 ∨ k = 3 ∨ k = 4 ∨ k = 5 ∨ k = 6 ∨ k = 7 ∨ k = 8 ∨ k = 9 := by omega
 all_goals
  go_enter Tryz.func81, Tryz.ntmps81
  go_wp2
  go_ret
 · exact ⟨_, rfl, ⟨by simp [told, ints], .inl ⟨rfl, by simp [told]⟩⟩, by go_grown⟩
 · refine ⟨_, rfl, ?_, by go_grown⟩
   have h5 := jt7 (w.alloc (.cells #[.int .i64 2, .int .i64 x, .int .i64 y] 52)) w.heap.size [x, y] (by simp) (by simp)
   simpa [told, ints] using h5
 · refine ⟨_, rfl, ?_, by go_grown⟩
   have h5 := jt7 (w.alloc (.cells #[.int .i64 3, .int .i64 x, .int .i64 y] 52)) w.heap.size [x, y] (by simp) (by simp)
   simpa [told, ints] using h5
 · refine ⟨_, rfl, ?_, by go_grown⟩
   have h5 := jt7 (w.alloc (.cells #[.int .i64 4, .int .i64 x, .int .i64 y] 52)) w.heap.size [x] (by simp) (by simp)
   simpa [told, ints] using h5
 · refine ⟨_, rfl, ?_, by go_grown⟩
   have h5 := jt7 (w.alloc (.cells #[.int .i64 5, .int .i64 x, .int .i64 y] 52)) w.heap.size [x] (by simp) (by simp)
   simpa [told, ints] using h5
 · refine ⟨_, rfl, ?_, by go_grown⟩
   have h5 := jt7 (w.alloc (.cells #[.int .i64 6, .int .i64 x, .int .i64 y] 52)) w.heap.size [x] (by simp) (by simp)
   simpa [told, ints] using h5
 · refine ⟨_, rfl, ?_, by go_grown⟩
   have h5 := jt7 (w.alloc (.cells #[.int .i64 7, .int .i64 x, .int .i64 y] 52)) w.heap.size [y] (by simp) (by simp)
   simpa [told, ints] using h5
 · refine ⟨_, rfl, ?_, by go_grown⟩
   have h5 := jt7 (w.alloc (.cells #[.int .i64 8, .int .i64 x, .int .i64 y] 52)) w.heap.size [y] (by simp) (by simp)
   simpa [told, ints] using h5
 · exact ⟨_, rfl, ⟨by simp [told, ints], .inl ⟨rfl, by simp [told]⟩⟩, by go_grown⟩
theorem told_part (s : Stm) (j : Nat) (h : j < (told s).length) : jc9 44 (((told s).take (j + 1)).map dd) = (if j = 0 then jc9 44 (((told s).take j).map dd) else jc9 44 (((told s).take j).map dd) ++ [44]) ++ dd (told s)[j] := by
 have hl : j < ((told s).map dd).length := by simpa using h
 have := js8 44 ((told s).map dd) j hl
 rw [List.map_take, this, List.map_take, List.getElem_map]
 congr 1
 unfold ahead
 have : (List.take j ((told s).map dd)).length = j := by simp; omega
 rw [this]
 split
 · rename_i h0; subst h0; simp [jc9]
 · rfl
theorem letter_get {k : Int} (h1 : 1 ≤ k) (h9 : k ≤ 9) : ∀ (h : k.toNat - 1 < (⟨#[115, 99, 98, 108, 109, 116, 106, 107, 114]⟩ : ByteArray).size), (⟨#[115, 99, 98, 108, 109, 116, 106, 107, 114]⟩ : ByteArray)[k.toNat - 1]'h = jm7 k := by
 obtain rfl | rfl | rfl | rfl | rfl | rfl | rfl | rfl | rfl : k = 1 ∨ k = 2 ∨ k = 3 ∨ k = 4 ∨ k = 5 ∨ k = 6 ∨ k = 7 ∨ k = 8 ∨ k = 9 := by omega
 all_goals
  intro h
  rfl
theorem one_cell3 {w : World} {b : Nat} {x0 x1 x2 : Value} {T : TypeId} (h : w.heap[b]? = some (.cells #[x0, x1, x2] T (0, 0))) :
 w.cell? ⟨b, 0, none⟩ = some x0 ∧ w.cell? ⟨b, 1, none⟩ = some x1 ∧ w.cell? ⟨b, 2, none⟩ = some x2 := by
 refine ⟨?_, ?_, ?_⟩ <;> simp [World.cell?, h]
theorem writeStmt (b : Nat) (l : List UInt8) (s : Stm) (w : World) (hok : jd7 s.k s.x s.y = true) (h : Bld b l w) (hlen : l.length ≤ 10000) (hb : b < w.heap.size) :
 Calls Tryz.prog 62 #[.pointer (some ⟨b, 0, none⟩), .agg #[.int .i64 s.k, .int .i64 s.x, .int .i64 s.y]] w fun e w' => e = .returned (.tuple #[]) ∧ Bld b (l ++ je9 s) w' ∧ Wrote b w w' := by
 obtain ⟨hk1, hk9, _, _, _, _⟩ := jo0 hok
 obtain ⟨hn1, hn2⟩ := qd0 hok
 have htn := fun W => toldNumbers s W hok
 obtain ⟨W0, hW0⟩ : ∃ W0, w.alloc (.cells #[.int .i64 s.k, .int .i64 s.x, .int .i64 s.y] 52) = W0 := ⟨_, rfl⟩
 have b0 : Below w.heap.size w W0 := by rw [← hW0]; go_grown
 have H0 : W0.heap[w.heap.size]? = some (.cells #[.int .i64 s.k, .int .i64 s.x, .int .i64 s.y] 52 (0, 0)) := by rw [← hW0]; exact heap_alloc_new w _
 have hW : Hid (Wrote b w W0) := (Wrote.refl b w).below b0 (by omega)
 have hB0 : Bld b l W0 := h.below b0
 have s0 := b0.size
 have hwb := bldByte b l (jm7 s.k) W0 hB0 (by omega) (by omega)
 have ST : je9 s = jm7 s.k :: jc9 44 ((told s).map dd) := rfl
 have TP := told_part s
 have hlet := letter_get hk1 hk9
 rw [ST]
 obtain ⟨c, hc⟩ : ∃ c, jm7 s.k = c := ⟨_, rfl⟩
 rw [hc] at hwb hlet ⊢
 clear hc ST
 obtain ⟨k, x, y⟩ := s
 simp only at *
 have c0 : W0.cell? ⟨w.heap.size, 0, none⟩ = some (.int .i64 k) := by simp [World.cell?, H0]
 have hHB : Hid (Bld b l W0) := hB0
 clear hB0 h b0 hok
 obtain ⟨ns, hns⟩ : ∃ ns, told ⟨k, x, y⟩ = ns := ⟨_, rfl⟩
 rw [hns] at htn TP hn1 hn2 ⊢
 clear hns
 have HTP : Hid _ := TP
 have HLET : Hid _ := hlet
 have HW0 : Hid _ := hW0
 clear TP hlet
 go_enter Tryz.func62, Tryz.ntmps62
 go_wp2_with fail
 rw [HLET.out]
 go_at_call 80
 refine hwb.mono ?_
 rintro e w1 ⟨rfl, B1, R1⟩
 have G1 : Hid (Wrote b w w1) := hW.out.trans R1
 have H1 := R1.block H0 (by omega) (by decide)
 have c1 := (one_cell3 H1)
 have s1 := R1.1.size
 obtain ⟨d0, d1, d2⟩ := c1
 have htn1 := htn w1
 clear hwb c0 H0 hW htn hW0 HW0 R1 hHB HLET
 go_wp2_with fail
 go_at_call 81
 refine htn1.mono ?_
 rintro e w2 ⟨u, rfl, own2, b2⟩
 have s2 := b2.size
 have B2 : Bld b (l ++ [c]) w2 := B1.below b2
 have G2 : Hid (Wrote b w w2) := G1.out.below b2 (by omega)
 obtain ⟨uo, ucap, rfl, hcu⟩ := jc5 own2
 have HCU : Hid _ := hcu
 clear htn1 d0 d1 d2 H1 B1 G1 hcu
 simp only [jb8] at *
 obtain ⟨N, hN⟩ : ∃ N, ns.length = N := ⟨_, rfl⟩
 have HN : Hid _ := hN
 rw [hN] at own2 hn1 ⊢
 clear hN
 have hB2' : Bld b (l ++ [c] ++ jc9 44 ((ns.take 0).map dd)) w2 := by simpa [jc9] using B2
 have hB2 : Hid _ := hB2'
 clear hB2'
 have hbs : b < w1.heap.size := by omega
 clear B2
 go_wp2
 go_loopw [15] (fun q wr => ∃ j : Nat, j ≤ N ∧ q = .int .i64 j ∧ Hid (Bld b (l ++ [c] ++ jc9 44 ((ns.take j).map dd)) wr) ∧ wr.ownsRow w1.heap.size 2 1 (.slice uo N ucap) N (ints ns) ∧ Hid (Wrote b w wr) ∧ w1.heap.size ≤ wr.heap.size) (fun q _ => N - (intOf q).toNat)
 case atStart => exact ⟨0, Nat.zero_le _, rfl, hB2, own2, G2, s2⟩
 case round =>
  obtain ⟨j, hj, rfl, hBj, ownj, hGj, hsj⟩ := hrel
  clear hB2 own2 G2
  by_cases hlt : j < N
  · have hlt' : (j : Int) < (N : Int) := by omega
    have hjl : j < ns.length := by rw [HN.out]; exact hlt
    have hnj := hn2 ns[j] (List.getElem_mem hjl)
    have htp := HTP.out j hjl
    obtain ⟨go, ho⟩ : ∃ go, uo = some ⟨go, 0, none⟩ := by
     rcases ownj.2 with ⟨e, h0⟩ | ⟨g, cap, cur, e, _⟩
     · omega
     · injection e with e1; exact ⟨g, e1⟩
    subst ho
    have e0 : wr.cell? ⟨go, j, none⟩ = some (.int .i64 ns[j]) := by
     rw [ownj.cellAt j (by omega)]
     simp [ints]
    have hll : (l ++ [c] ++ jc9 44 ((ns.take j).map dd)).length ≤ 100000 := by
     have h5 := jn6 44 2 ((ns.take j).map dd) (fun x hx => by
      obtain ⟨n, hn, rfl⟩ := List.mem_map.1 hx
      have := hn2 n (List.mem_of_mem_take hn)
      exact dd_len this.1 (by omega))
     simp only [List.length_map, List.length_take] at h5
     simp only [List.length_append, List.length_cons, List.length_nil]
     have : min j ns.length ≤ 2 := by omega
     omega
    have hddl := dd_len hnj.1 (by omega)
    have hfi := fun W => formatInt ns[j].toNat (by omega) W
    have hnn : ((ns[j].toNat : Nat) : Int) = ns[j] := by omega
    rw [hnn] at hfi
    have hde : dd ns[j] = Lib.decDigits ns[j].toNat := rfl
    rw [← hde] at hfi
    have hwb := writeBetween b _ j 44 wr hBj.out hll (by omega)
    obtain ⟨A, hA⟩ : ∃ A, (if j = 0 then l ++ [c] ++ jc9 44 ((ns.take j).map dd) else (l ++ [c] ++ jc9 44 ((ns.take j).map dd)) ++ [44]) = A := ⟨_, rfl⟩
    rw [hA] at hwb
    have hAl : A.length ≤ 100001 := by
     rw [← hA]
     split
     · omega
     · simp only [List.length_append, List.length_cons, List.length_nil] at hll ⊢; omega
    have HAA : Hid (A ++ dd ns[j] = l ++ [c] ++ jc9 44 ((ns.take (j + 1)).map dd)) := by
     show _ = _
     rw [htp, ← hA]
     split <;> simp
    clear hA htp hde hnn HTP hBj
    generalize ns[j] = nj at *
    generalize dd nj = D at *
    go_wp2_with fail
    go_at_call 61
    refine hwb.mono ?_
    rintro e w3 ⟨rfl, B3, R3⟩
    have s3 := R3.1.size
    have own3 := R3.own ownj (by omega) (by decide)
    have G3 : Hid (Wrote b w w3) := hGj.out.trans R3
    have hwt := fun W (hW : Bld b A W) (hz : b < W.heap.size) => bldText b A D W hW (by omega) (by omega) hz
    have hwt3 := hwt w3 B3 (by omega)
    clear hwb e0 R3 B3 hwt ownj hGj
    go_wp2_with fail
    go_at_call 83
    refine (hfi _).mono ?_
    rintro e w3' ⟨rfl, rfl⟩
    go_wp2_with fail
    go_at_call 82
    refine hwt3.mono ?_
    rintro e w4 ⟨rfl, B4, R4⟩
    have s4 := R4.1.size
    have own4 := R4.own own3 (by omega) (by decide)
    have G4 : Hid (Wrote b w w4) := G3.out.trans R4
    have HB4 : Hid (Bld b (l ++ [c] ++ jc9 44 ((ns.take (j + 1)).map dd)) w4) := by rw [← HAA.out]; exact B4
    clear hwt3 R4 B4 own3 G3 hfi
    go_wp2
    go_roundw
    case rel => exact ⟨j + 1, by omega, by go_num, HB4, own4, G4, by omega⟩
    case measure => simp [intOf]; omega
  · have hjj : j = ns.length := by rw [HN.out]; omega
    have hBe' : Bld b (l ++ c :: jc9 44 (ns.map dd)) wr := by
     have h5 := hBj.out
     rw [hjj, List.take_length] at h5
     simpa using h5
    have hBe : Hid _ := hBe'
    clear hBe'
    clear hBj hjj HTP
    go_wp2
    go_end0
    exact ⟨rfl, hBe.out, hGj.out⟩
theorem progs_all {ps : List (List Stm)} (h : ja5 ps = true) : ps.length ≤ 4 ∧ 1 ≤ ps.length ∧ ∀ p ∈ ps, p.length ≤ 12 ∧ ∀ s ∈ p, jd7 s.k s.x s.y = true := by
 obtain ⟨h1, h2, h3⟩ := jc1 h
 exact ⟨h1, h2, fun p hp => ⟨jj5 (h3 p hp).1, fun s hs => ji1 (h3 p hp).1 hs⟩⟩
theorem Bld.fresh (w : World) : Bld w.heap.size [] (w.alloc (.cells #[.pointer none, .slice none 0 0] 94)) := Lib.IsBuilderF.of (Lib.fresh_isBuilder 94 5 w)
theorem proc_part (p : List Stm) (j : Nat) (h : j < p.length) : jc9 32 ((p.take (j + 1)).map je9) = (if j = 0 then jc9 32 ((p.take j).map je9) else jc9 32 ((p.take j).map je9) ++ [32]) ++ je9 p[j] := by
 have hl : j < (p.map je9).length := by simpa using h
 have := js8 32 (p.map je9) j hl
 rw [List.map_take, this, List.map_take, List.getElem_map]
 congr 1
 unfold ahead
 have : (List.take j (p.map je9)).length = j := by simp; omega
 rw [this]
 split
 · rename_i h0; subst h0; simp [jc9]
 · rfl
theorem show_part (ps : List (List Stm)) (j : Nat) (h : j < ps.length) : jc9 59 ((ps.take (j + 1)).map jl6) = (if j = 0 then jc9 59 ((ps.take j).map jl6) else jc9 59 ((ps.take j).map jl6) ++ [59]) ++ jl6 ps[j] := by
 have hl : j < (ps.map jl6).length := by simpa using h
 have := js8 59 (ps.map jl6) j hl
 rw [List.map_take, this, List.map_take, List.getElem_map]
 congr 1
 unfold ahead
 have : (List.take j (ps.map jl6)).length = j := by simp; omega
 rw [this]
 split
 · rename_i h0; subst h0; simp [jc9]
 · rfl
theorem show_len {ps : List (List Stm)} (h4 : ps.length ≤ 4) (h : ∀ p ∈ ps, p.length ≤ 12 ∧ ∀ s ∈ p, jd7 s.k s.x s.y = true) (j : Nat) : (jc9 59 ((ps.take j).map jl6)).length ≤ 388 := by
 have := jn6 59 96 ((ps.take j).map jl6) (fun x hx => by
  obtain ⟨p, hp, rfl⟩ := List.mem_map.1 hx
  have := h p (List.mem_of_mem_take hp)
  exact procT_len this.1 this.2)
 simp only [List.length_map, List.length_take] at this
 have h5 : min j ps.length ≤ 4 := by omega
 have h6 : min j ps.length * (96 + 1) ≤ 4 * (96 + 1) := Nat.mul_le_mul_right _ h5
 omega
theorem proc_len {p : List Stm} (hl : p.length ≤ 12) (h : ∀ s ∈ p, jd7 s.k s.x s.y = true) (j : Nat) : (jc9 32 ((p.take j).map je9)).length ≤ 96 := by
 have := jn6 32 7 ((p.take j).map je9) (fun x hx => by
  obtain ⟨s, hs, rfl⟩ := List.mem_map.1 hx
  exact jr6 (h s (List.mem_of_mem_take hs)))
 simp only [List.length_map, List.length_take] at this
 have h5 : min j p.length ≤ 12 := by omega
 have h6 : min j p.length * (7 + 1) ≤ 12 * (7 + 1) := Nat.mul_le_mul_right _ h5
 omega
theorem implShow (ps : List (List Stm)) (v : Value) (w : World) (hl : ps.length ≤ maxLen) (hp : ∀ p ∈ ps, p.length ≤ maxLen) (hv : jb5 w v ps) :
 Calls Tryz.prog 35 #[.agg #[v]] w fun e w' => e = .returned (.string ⟨(jv4 ps).toArray⟩) ∧ Below w.heap.size w w' := by
 obtain ⟨W0, hW0⟩ : ∃ W0, w.alloc (.cells #[v] 26) = W0 := ⟨_, rfl⟩
 have b0 : Below w.heap.size w W0 := by rw [← hW0]; go_grown
 have s0 : W0.heap.size = w.heap.size + 1 := by rw [← hW0]; simp
 have H0 : W0.heap[w.heap.size]? = some (.cells #[v] 26 (0, 0)) := by rw [← hW0]; exact heap_alloc_new w _
 have hpk := jj6 ps v W0 hl hp (ja0 hv b0)
 have c0 := (ja4 H0).1
 have HW0 : Hid _ := hW0
 cases hok : ja5 ps
 · rw [hok] at hpk
   have hsA : jv4 ps = [] := by unfold jv4; rw [hok]; rfl
   rw [hsA]
   clear hok hsA HW0
   go_enter Tryz.func35, Tryz.ntmps35
   go_wp2_with fail
   go_at_call 17
   refine hpk.mono ?_
   rintro e w1 ⟨rfl, b1⟩
   have L1 : Hid (Below w.heap.size w w1) := b0.trans (b1.mono (by omega))
   clear hW0 hpk c0 H0 b0 b1 s0 hv
   go_wp2
   go_ret
   exact ⟨rfl, L1.out⟩
 rw [hok] at hpk
 have hsA : jv4 ps = showT ps := by unfold jv4; rw [hok]; rfl
 rw [hsA]
 obtain ⟨h4, h1, hpr⟩ := progs_all hok
 obtain ⟨R, hR⟩ : ∃ R, showT ps = R := ⟨_, rfl⟩
 rw [hR]
 have HR : Hid _ := hR
 obtain ⟨ao, vcap, rfl, hcv⟩ := hv
 clear hok hsA hR
 go_enter Tryz.func35, Tryz.ntmps35
 go_wp2_with fail
 go_at_call 17
 refine hpk.mono ?_
 rintro e w1 ⟨rfl, b1⟩
 have s1 := b1.size
 have H1 := (b1.block w.heap.size (by omega)).trans H0
 have L1 : Below w.heap.size w w1 := b0.trans (b1.mono (by omega))
 clear hW0 HW0 hpk c0 H0 b0 b1
 obtain ⟨w2, hw2⟩ : ∃ w2, w1.alloc (.cells #[.pointer none, .slice none 0 0] 94) = w2 := ⟨_, rfl⟩
 have b2 : Below w1.heap.size w1 w2 := by rw [← hw2]; go_grown
 have s2 : w2.heap.size = w1.heap.size + 1 := by rw [← hw2]; simp
 have B2 : Bld w1.heap.size [] w2 := by rw [← hw2]; exact Bld.fresh w1
 have L2 : Below w.heap.size w w2 := L1.trans (b2.mono (by omega))
 have H2 := (b2.block w.heap.size (by omega)).trans H1
 have c2 := (ja4 H2).1
 obtain ⟨b, hb⟩ : ∃ b, w1.heap.size = b := ⟨_, rfl⟩
 rw [hb] at B2 s2
 have hwb : w.heap.size < b := by omega
 have HB2 : Hid (Bld b (jc9 59 ((ps.take 0).map jl6)) w2) := by
  show Bld _ _ _
  simpa [jc9] using B2
 have s2' : b + 1 ≤ w2.heap.size := by omega
 clear H1 L1 b2 B2 s1 s0
 go_wp2
 clear hw2 hb c2
 go_loopw [14] (fun q wr => ∃ j : Nat, j ≤ ps.length ∧ q = .int .i64 j ∧ Hid (Bld b (jc9 59 ((ps.take j).map jl6)) wr) ∧ Below w.heap.size w wr ∧ b + 1 ≤ wr.heap.size) (fun q _ => ps.length - (intOf q).toNat)
 case atStart => exact ⟨0, Nat.zero_le _, rfl, HB2, L2, s2'⟩
 case round =>
  obtain ⟨j, hj, rfl, hBj, hLj, hsj⟩ := hrel
  clear HB2 L2 s2 s2' H2
  by_cases hlt : j < ps.length
  · have hlt' : (j : Int) < (ps.length : Int) := by omega
    obtain ⟨gv, off, u, rfl, q0, r0⟩ := hcv j ps[j] (by simp)
    have q1 := (hLj.cell (World.block_lt_of_cell? w _ q0)).trans q0
    have hpp := hpr ps[j] (List.getElem_mem hlt)
    have hsp := show_part ps j hlt
    have hll := show_len h4 (fun p hp => hpr p hp) j
    have hwb := writeBetween b (jc9 59 ((ps.take j).map jl6)) j 59
    obtain ⟨A, hA⟩ : ∃ A, (if j = 0 then jc9 59 ((ps.take j).map jl6) else jc9 59 ((ps.take j).map jl6) ++ [59]) = A := ⟨_, rfl⟩
    have hAl : A.length ≤ 389 := by
     rw [← hA]
     split
     · omega
     · simp only [List.length_append, List.length_cons, List.length_nil]; omega
    rw [hA] at hwb hsp
    have HSP : Hid _ := hsp
    clear hcv hA hsp
    generalize ps[j] = p at *
    obtain ⟨ua, uc, rfl, hcu⟩ := r0
    obtain ⟨wa, hwa⟩ : ∃ wa, wr.alloc (.cells #[.slice ua p.length uc] 63) = wa := ⟨_, rfl⟩
    have ba : Below wr.heap.size wr wa := by rw [← hwa]; go_grown
    have sa : wa.heap.size = wr.heap.size + 1 := by rw [← hwa]; simp
    have Ha : wa.heap[wr.heap.size]? = some (.cells #[.slice ua p.length uc] 63 (0, 0)) := by rw [← hwa]; exact heap_alloc_new wr _
    have La : Below w.heap.size w wa := hLj.trans (ba.mono (by omega))
    have hwba := hwb wa (hBj.out.below ba) (by omega) (by omega)
    obtain ⟨X, hX⟩ : ∃ X, wr.heap.size = X := ⟨_, rfl⟩
    rw [hX] at sa Ha
    have hXb : b + 1 ≤ X := by omega
    have HCU : Hid _ := hcu
    clear hwb hBj hLj ba q0 hcu
    go_wp2_with fail
    go_at_call 61
    refine hwba.mono ?_
    rintro e w3 ⟨rfl, B3, R3⟩
    have s3 := R3.1.size
    have H3 := R3.block Ha (by omega) (by decide)
    have c3 := (ja4 H3).1
    have L3 : Below w.heap.size w w3 := La.trans (R3.1.mono (by omega))
    have HB3 : Hid (Bld b (A ++ jc9 32 ((p.take 0).map je9)) w3) := by
     show Bld _ _ _
     simpa [jc9] using B3
    have s3' : b + 1 ≤ w3.heap.size := by omega
    clear hwba Ha La R3 B3 H3 q1
    obtain ⟨N, hN⟩ : ∃ N, p.length = N := ⟨_, rfl⟩
    have HN : Hid _ := hN
    have hN12 : N ≤ 12 := by rw [← hN]; exact hpp.1
    rw [hN] at c3 ⊢
    clear hN
    obtain ⟨wo, hwo⟩ : ∃ wo, wo = wr := ⟨wr, rfl⟩
    go_wp2
    clear c3 hwa hX hwo
    go_loopw [24] (fun q wr => ∃ m : Nat, m ≤ N ∧ q = .int .i64 m ∧ Hid (Bld b (A ++ jc9 32 ((p.take m).map je9)) wr) ∧ Below w.heap.size w wr ∧ b + 1 ≤ wr.heap.size) (fun q _ => N - (intOf q).toNat)
    case atStart => exact ⟨0, Nat.zero_le _, rfl, HB3, L3, s3'⟩
    case round =>
     obtain ⟨m, hm, rfl, hBm, hLm, hsm⟩ := hrel
     clear HB3 L3 s3 s3' sa
     by_cases hlm : m < N
     · have hlm' : (m : Int) < (N : Int) := by omega
       have hml : m < p.length := by rw [HN.out]; exact hlm
       obtain ⟨gu, ou, rfl, a0, a1, a2⟩ := HCU.out m p[m] (by simp)
       have hBu := World.block_lt_of_cell? w _ a0
       have a0 := (hLm.cell hBu).trans a0
       have a1 := (hLm.cell (p := ⟨gu, ou + m * 3 + 1, none⟩) hBu).trans a1
       have a2 := (hLm.cell (p := ⟨gu, ou + m * 3 + 2, none⟩) hBu).trans a2
       have hpt := proc_part p m hml
       have hll2 := proc_len hpp.1 hpp.2 m
       have hso := hpp.2 p[m] (List.getElem_mem hml)
       obtain ⟨D, hD⟩ : ∃ D, (if m = 0 then jc9 32 ((p.take m).map je9) else jc9 32 ((p.take m).map je9) ++ [32]) = D := ⟨_, rfl⟩
       have hDl : D.length ≤ 97 := by
        rw [← hD]
        split
        · omega
        · simp only [List.length_append, List.length_cons, List.length_nil]; omega
       have hDA : (if m = 0 then A ++ jc9 32 ((p.take m).map je9) else (A ++ jc9 32 ((p.take m).map je9)) ++ [32]) = A ++ D := by
        rw [← hD]
        split <;> simp
       rw [hD] at hpt
       have HPT : Hid _ := hpt
       have hwb := fun W (hW : Bld b _ W) hz => writeBetween b (A ++ jc9 32 ((p.take m).map je9)) m 32 W hW (by simp only [List.length_append]; omega) hz
       rw [hDA] at hwb
       have hws := fun W (hW : Bld b (A ++ D) W) hz => writeStmt b (A ++ D) p[m] W hso hW (by simp only [List.length_append]; omega) hz
       clear hD hDA hpt
       generalize p[m] = s at *
       obtain ⟨sk, sx, sy⟩ := s
       simp only at a0 a1 a2 hws
       obtain ⟨wb, hwb'⟩ : ∃ wb, wr.alloc (.cells #[.int .i64 sk, .int .i64 sx, .int .i64 sy] 52) = wb := ⟨_, rfl⟩
       have bb : Below wr.heap.size wr wb := by rw [← hwb']; go_grown
       have sb : wb.heap.size = wr.heap.size + 1 := by rw [← hwb']; simp
       have Hb : wb.heap[wr.heap.size]? = some (.cells #[.int .i64 sk, .int .i64 sx, .int .i64 sy] 52 (0, 0)) := by rw [← hwb']; exact heap_alloc_new wr _
       have Lb : Below w.heap.size w wb := hLm.trans (bb.mono (by omega))
       have hwbb := hwb wb (hBm.out.below bb) (by omega)
       obtain ⟨Y, hY⟩ : ∃ Y, wr.heap.size = Y := ⟨_, rfl⟩
       rw [hY] at sb Hb
       clear hwb hBm hLm bb
       go_wp2_with fail
       go_at_call 61
       refine hwbb.mono ?_
       rintro e w5 ⟨rfl, B5, R5⟩
       have s5 := R5.1.size
       have H5 := R5.block Hb (by omega) (by decide)
       obtain ⟨d0, d1, d2⟩ := one_cell3 H5
       have L5 : Below w.heap.size w w5 := Lb.trans (R5.1.mono (by omega))
       have hws5 := hws w5 B5 (by omega)
       clear hwbb Hb Lb R5 B5 H5 a0 a1 a2 hws
       go_wp2_with fail
       go_at_call 62
       refine hws5.mono ?_
       rintro e w6 ⟨rfl, B6, R6⟩
       have s6 := R6.1.size
       have L6 : Below w.heap.size w w6 := L5.trans (R6.1.mono (by omega))
       have HB6 : Hid (Bld b (A ++ jc9 32 ((p.take (m + 1)).map je9)) w6) := by
        show Bld _ _ _
        rw [HPT.out, ← List.append_assoc]
        exact B6
       have s6' : b + 1 ≤ w6.heap.size := by omega
       clear hws5 d0 d1 d2 L5 R6 B6 hwb' hY
       go_wp2
       go_roundw
       case rel => exact ⟨m + 1, by omega, by go_num, HB6, L6, s6'⟩
       case measure => simp [intOf]; omega
     · have hmm : m = p.length := by rw [HN.out]; omega
       have hBe : Hid (Bld b (jc9 59 ((ps.take (j + 1)).map jl6)) wr) := by
        show Bld _ _ _
        rw [HSP.out]
        have h5 := hBm.out
        rw [hmm, List.take_length] at h5
        exact h5
       clear hBm hmm
       go_wp2
       go_roundw
       case rel => exact ⟨j + 1, by omega, by go_num, hBe, hLm, hsm⟩
       case measure => simp [intOf]; omega
  · have hjj : j = ps.length := by omega
    have hBe : Hid (Bld b R wr) := by
     show Bld _ _ _
     have h5 := hBj.out
     rw [hjj, List.take_length] at h5
     rw [← HR.out]
     exact h5
    have hst := bldString b R wr hBe.out (by omega)
    clear hBj hjj
    go_wp2_with fail
    go_at_call 63
    refine hst.mono ?_
    rintro e w9 ⟨rfl, b9⟩
    have L9 : Hid (Below w.heap.size w w9) := hLj.trans (b9.mono (by omega))
    clear hst hLj b9
    go_wp2
    go_ret
    exact ⟨rfl, L9.out⟩
end Go.Proofs.YtldagpfeaabcdaaGreatDoor
