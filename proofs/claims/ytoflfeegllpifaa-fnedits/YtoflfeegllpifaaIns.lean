/-
  slices.Insert over statements: one ahead of another.
-/
import Derived.Test.YtoflfeegllpifaaRepl
import Derived.Lib.AppendZerosOnto
import Derived.Lib.Overlaps
namespace Go.Proofs.Ytoflfeegllpifaa
open Go.RowKit
set_option linter.unusedVariables false
set_option linter.unusedSimpArgs false
set_option maxHeartbeats 4000000
set_option maxRecDepth 20000

/-- append(s, make(S, k)...) where there is no room. -/
theorem wpList_appZ {P : Program} {w : World} {ops : Array Oper} {rest : List Oper} {o : Oper} {a : Act} {Q : Exit → Act → World → Prop} (hgd : o.guard = none) (s x : Operand) (t tn : TypeId)
    (ho : o.op = .call { callee := .builtin .append, args := #[s, x], argTypes := #[t, tn] }) (e : TypeId) (i : TypeInfo) (z : Value) (size bytes : Nat) (ht : P.underlying t = some (.slice e)) (htn : P.underlying tn = some (.int .i64)) (hi : P.info? e = some i) (hz : i.zero = some z)
    (hsize : i.size = size) (hby : i.bytes = bytes) (hzs : z.cells.size = size) (hsz : 0 < size) (hb24 : bytes ≤ 100)
    (g n cap : Nat) (hs : a.eval s = .slice (some ⟨g, 0, none⟩) n cap) (olds : List Value) (hol : olds.length = n * size) (hold : ∀ j u, olds[j]? = some u → w.cell? ⟨g, j, none⟩ = some u)
    (k : Nat) (hx : a.eval x = .int .i64 (k : Int)) (hk : 0 < k) (hroom : cap < n + k) (hsm : n + k ≤ 1000)
    (h : ∀ cap' Z w', Hid (w'.heap[w.heap.size]? = some (.cells (olds ++ Z).toArray e (0, 0))) → Hid (Z.length = (cap' - n) * size ∧ n + k ≤ cap' ∧ cap' ≤ maxLen) → Below w.heap.size w w' → wpList P ops Q rest (a.put o.dst (.slice (some ⟨w.heap.size, 0, none⟩) (n + k) cap')) w') : wpList P ops Q (o :: rest) a w := by
  refine wpList_plain hgd fun _ hK => ?_
  subst hsize hby
  have hfc : (Builtin.firstCells i.size n (.slice (some ⟨g, 0, none⟩) n cap)).run P w.drew = .ok olds.toArray w.drew := run_firstCells_some (P := P) w.drew i.size n ⟨g, 0, none⟩ n cap olds hol (fun j u hj => by rw [Addr.add_lit, Nat.zero_add]; exact hold j u hj)
  have hr := Lib.run_append_grow_zeros (P := P) w t tn o.type e i z .i64 .i64 ht htn hi hz (some ⟨g, 0, none⟩) n cap olds hfc k hk hsz hroom (by omega) (by
      have : k * i.bytes ≤ 1000 * 100 := Nat.mul_le_mul (by omega) hb24
      omega) (growslice_fits hroom (by
      have : (n + k) * i.bytes ≤ 1000 * 100 := Nat.mul_le_mul hsm hb24
      omega))
  have hge := grownCap_ge w (n + k) cap e
  have hcm : grownCap w (n + k) cap e ≤ maxLen := grownCap_le_maxLen w (n + k) cap e (by unfold maxLen; omega)
  unfold Oper.wp
  simp only [execOp, ho, resolve, invoke, builtin, Sem.run_bind, Sem.run_pure, Result.andThen_ok, List.map_toArray, List.map_cons, List.map_nil, hs, hx, hr]
  refine hK _ _ (h _ (Builtin.zeroCells z.cells k ++ Builtin.zeroCells z.cells (grownCap w (n + k) cap e - (n + k))).toList _ ?_ ⟨?_, hge, hcm⟩ ?_)
  · show _ = _
    have h3 := heap_alloc_new w.drew (.cells (olds.toArray ++ Builtin.zeroCells z.cells k ++ Builtin.zeroCells z.cells (grownCap w (n + k) cap e - (n + k))) e)
    have h4 : w.drew.heap.size = w.heap.size := rfl
    rw [h4] at h3
    rw [h3]
    simp
  · rw [Array.length_toList, Array.size_append, size_zeroCells, size_zeroCells, hzs, ← Nat.add_mul]
    congr 1
    omega
  · exact ⟨rfl, rfl, rfl, by simp, fun q hq => old_block (w := w.drew) hq⟩

def Stop13 (p : Prop) : Prop := p
theorem stop13 {p : Prop} (h : Stop13 p) : p := h

theorem overlapsNo (w : World) (b g o la ca lb cb : Nat) (hne : b ≠ g) (C D : Array Value) (hb : w.heap[b]? = some (.cells C 37 (0, 0))) (hg : w.heap[g]? = some (.cells D 37 (0, 0))) (hD : D.size ≠ 0) :
    (callFunc 64 #[.slice (some ⟨b, 0, none⟩) la ca, .slice (some ⟨g, o, none⟩) lb cb]).run Try.prog w = .ok (.value (.bool false)) w := by
  obtain ⟨i0, hi, hz0, hz1, hz2⟩ := info_parts infoStmt
  rw [run_callFunc_extern Try.func64 (by kernel_rfl) (by kernel_rfl) (by kernel_rfl) (e := Extern.SlicesOverlaps.overlaps #[32, 32] #[4]) (by kernel_rfl),
    Lib.run_overlaps_apart w 32 4 37 Try.underlying32 3 (fun W => by simp [sizeOf, typeInfo, hi, hz1]) ⟨b, 0, none⟩ ⟨g, o, none⟩ la ca lb cb hne 37 37 C.size D.size (by simp [World.shape?, hb]) (by simp [World.shape?, hg]) hD (by simp [World.frozen?, hb]) (by simp [World.frozen?, hb])]
  rfl

theorem insertAt (A B : List Stm) (s0 : Stm) (k x y : Int) (g cap b base n a : Nat) (w : World) (ha : A.length = a) (hn : a + 1 + B.length = n) (hl : n ≤ 100) (hne : b ≠ g)
    (hv : w.ownsRow base 37 3 (.slice (some ⟨g, 0, none⟩) n cap) n (cells3 (A ++ s0 :: B))) (hb : w.heap[b]? = some (.cells #[.int .i64 k, .int .i64 x, .int .i64 y] 37 (0, 0))) (hbase : base ≤ w.heap.size) :
    Calls Try.prog 63 #[.slice (some ⟨g, 0, none⟩) n cap, .int .i64 (a : Int), .slice (some ⟨b, 0, none⟩) 1 1] w fun e w' => ∃ q c, e = .returned (.slice (some ⟨q, 0, none⟩) (n + 1) c) ∧ w'.ownsRow base 37 3 (.slice (some ⟨q, 0, none⟩) (n + 1) c) (n + 1) (cells3 (A ++ ⟨k, x, y⟩ :: s0 :: B)) ∧ w.grownBy w' (some g) ∧ (q = g ∨ w.heap.size ≤ q) := by
  obtain ⟨i0, hi, hz0, hz1, hz2⟩ := info_parts infoStmt
  obtain ⟨sp, hg, hsp, hnc, hcm, hbg⟩ := own_open hv
  unfold maxLen at hcm
  clear hv
  have hsz := infoStmt_size
  have e1 : cells3 (A ++ s0 :: B) ++ sp = cells3 A ++ (cells3 (s0 :: B) ++ sp) := by rw [cells3_append, List.append_assoc]
  rw [e1] at hg
  have hlA := cells3_length A
  rw [ha] at hlA
  have hlB : (cells3 (s0 :: B)).length = (n - a) * 3 := by rw [cells3_length, List.length_cons]; congr 1; omega
  have L1 := lit_cells hb
  have hgl : g < w.heap.size := (Array.getElem?_eq_some_iff.1 hg).1
  have hbl : b < w.heap.size := (Array.getElem?_eq_some_iff.1 hb).1
  obtain ⟨J, hJ⟩ : ∃ J, a + 1 = J := ⟨_, rfl⟩
  obtain ⟨M, hM⟩ : ∃ M, n + 1 = M := ⟨_, rfl⟩
  obtain ⟨r, hr⟩ : ∃ r, n - a = r := ⟨_, rfl⟩
  rw [hM]
  rw [hr] at hlB
  have hfin : ∀ (w' : World) (q c : Nat) (X : List Value), X.length = (c - M) * 3 → M ≤ c → c ≤ 9223372036854775807 → base ≤ q → w'.heap[q]? = some (.cells (cells3 A ++ (cells3 [⟨k, x, y⟩] ++ (cells3 (s0 :: B) ++ X))).toArray 37 (0, 0)) → w'.ownsRow base 37 3 (.slice (some ⟨q, 0, none⟩) M c) M (cells3 (A ++ ⟨k, x, y⟩ :: s0 :: B)) := fun w' q c X hX hc hc2 hq h => by
    have e2 : cells3 A ++ (cells3 [⟨k, x, y⟩] ++ (cells3 (s0 :: B) ++ X)) = cells3 (A ++ ⟨k, x, y⟩ :: s0 :: B) ++ X := by rw [cells3_append]; simp [cells3]
    rw [e2] at h
    exact own_shut h (by rw [cells3_length]; simp; omega) hX hc (by unfold maxLen; omega) hq
  have HF : Hid _ := hfin
  have HG : Hid (w.heap[g]? = some (.cells (cells3 A ++ (cells3 (s0 :: B) ++ sp)).toArray 37 (0, 0))) := hg
  have hsrc : ∀ w2 : World, w2.heap[g]? = some (.cells (cells3 A ++ (cells3 (s0 :: B) ++ sp)).toArray 37 (0, 0)) → ∀ j u, (cells3 (s0 :: B))[j]? = some u → w2.cell? ((⟨g, a * 3, none⟩ : Addr).add j) = some u := fun w2 h j u hj => by
    have hjl := (List.getElem?_eq_some_iff.1 hj).1
    rw [Addr.add_lit, row_cell h, List.getElem?_append_right (by omega), List.getElem?_append_left (by omega), ← hj]
    congr 1
    omega
  have HSR : Hid _ := hsrc
  have h1 : ¬ (a : Int) = (n : Int) := by omega
  have h2 : (a : Int) ≤ (n : Int) := by omega
  have h3 : (n : Int) ≤ (cap : Int) := by omega
  have h5 : (a : Int) ≤ (cap : Int) := by omega
  have h6 : ¬ cap = a := by omega
  have hMi : (n : Int) + 1 = (M : Int) := by omega
  have hJi : (a : Int) + 1 = (J : Int) := by omega
  have hwM : IntKind.i64.wrap (M : Int) = (M : Int) := IntWalk.i64_in _ (by omega)
  have hwJ : IntKind.i64.wrap (J : Int) = (J : Int) := IntWalk.i64_in _ (by omega)
  have hMJ : M - J = r := by omega
  have hMa : M - a = r + 1 := by omega
  have hJM : (J : Int) ≤ (M : Int) := by omega
  have haM : (a : Int) ≤ (M : Int) := by omega
  have hmm : Nat.min r r = r := Nat.min_self r
  have hm1 : Nat.min 1 (r + 1) = 1 := Nat.min_eq_left (by omega)
  have hm2 : Nat.min (r + 1) r = r := Nat.min_eq_right (by omega)
  by_cases hroom : n + 1 ≤ cap
  · have h7 : ¬ (cap : Int) < (M : Int) := by omega
    have h8 : (M : Int) ≤ (cap : Int) := by omega
    have h9 : ¬ cap = J := by omega
    obtain ⟨sp0, sp1, hsp01, hl0, hl1⟩ : ∃ sp0 sp1, sp = sp0 ++ sp1 ∧ sp0.length = 3 ∧ sp1.length = (cap - M) * 3 := ⟨sp.take 3, sp.drop 3, (List.take_append_drop 3 sp).symm, by rw [List.length_take, hsp]; omega, by rw [List.length_drop, hsp]; omega⟩
    have hov : ∀ lb cb, (callFunc 64 #[.slice (some ⟨b, 0, none⟩) 1 1, .slice (some ⟨g, J * 3, none⟩) lb cb]).run Try.prog w = .ok (.value (.bool false)) w := fun lb cb => overlapsNo w b g _ 1 1 lb cb hne _ _ hb HG.out (by simp [cells3_length])
    have HQ1 : Hid ((cells3 (s0 :: B)).length = Nat.min (r + 1) r * 3) := by
      show _ = _
      rw [hm2, hlB]
    have HQ2 : Hid (J * 3 + (cells3 (s0 :: B)).length ≤ (cells3 A ++ (cells3 (s0 :: B) ++ sp)).length) := by
      show _ ≤ _
      rw [List.length_append, List.length_append, hlA, hsp]
      omega
    obtain ⟨Y, hY, hYl⟩ : ∃ Y, (cells3 (s0 :: B) ++ sp0).take 3 = Y ∧ Y.length = 3 := ⟨_, rfl, by rw [List.length_take, List.length_append]; omega⟩
    have HGB : Hid (∀ w2 : World, w2.heap[g]? = some (.cells (splice (cells3 A ++ (cells3 (s0 :: B) ++ sp)) (J * 3) (cells3 (s0 :: B))).toArray 37 (0, 0)) → w2.heap[g]? = some (.cells (cells3 A ++ (Y ++ (cells3 (s0 :: B) ++ sp1))).toArray 37 (0, 0))) := fun w2 h => by
      have e3 : cells3 A ++ (cells3 (s0 :: B) ++ sp) = (cells3 A ++ Y) ++ ((cells3 (s0 :: B) ++ sp0).drop 3 ++ sp1) := by
        rw [← hY, hsp01, List.append_assoc, ← List.append_assoc (List.take _ _), List.take_append_drop, List.append_assoc]
      rw [e3, splice_mid _ _ _ _ _ (by rw [List.length_append]; omega) (by rw [List.length_drop, List.length_append]; omega), List.append_assoc] at h
      exact h
    have HQ3 : Hid ((cells3 [(⟨k, x, y⟩ : Stm)]).length = Nat.min 1 (r + 1) * 3) := by
      show _ = _
      rw [hm1]; rfl
    have HQ4 : Hid (a * 3 + (cells3 [(⟨k, x, y⟩ : Stm)]).length ≤ (cells3 A ++ (Y ++ (cells3 (s0 :: B) ++ sp1))).length) := by
      show _ ≤ _
      rw [List.length_append, List.length_append, hlA, hYl]
      simp [cells3]
    have HGC : Hid (∀ w2 : World, w2.heap[g]? = some (.cells (splice (cells3 A ++ (Y ++ (cells3 (s0 :: B) ++ sp1))) (a * 3) (cells3 [⟨k, x, y⟩])).toArray 37 (0, 0)) → w2.heap[g]? = some (.cells (cells3 A ++ (cells3 [⟨k, x, y⟩] ++ (cells3 (s0 :: B) ++ sp1))).toArray 37 (0, 0))) := fun w2 h => by
      rw [splice_mid _ _ _ _ _ hlA (by rw [hYl]; rfl)] at h
      exact h
    have HGD : Hid (w.drew.heap[g]? = some (.cells (cells3 A ++ (cells3 (s0 :: B) ++ sp)).toArray 37 (0, 0))) := HG.out
    have HSD : Hid (∀ j u, (cells3 (s0 :: B))[j]? = some u → w.drew.cell? ((⟨g, a * 3, none⟩ : Addr).add j) = some u) := HSR.out w.drew HGD.out
    have HGR : Hid (w.grownBy w.drew (some g)) := grown_of_below (Below.drew (Below.refl _ _)) _
    have HL1 : Hid (w.heap[b]? = some (.cells #[.int .i64 k, .int .i64 x, .int .i64 y] 37 (0, 0))) := hb
    have HBN : Hid (b ≠ g) := hne
    have HC63 : Hid (cap ≤ 9223372036854775807 ∧ M ≤ cap ∧ base ≤ g) := ⟨by omega, by omega, hbg⟩
    have HX : Hid _ := hl1
    clear hfin hsrc hJ hM hr hn hg hb L1 hY hsp01 hsp hl0 hl1 hroom hmm hm1 hm2 e1
    go_enter Try.func63, Try.ntmps63
    go_wp2_with fail
    refine wp_region_held_drew (S := fun _ => True) (by kernel_rfl) trivial (fun hHeld => ?_)
    refine wpAnyH_take (i := 0) (oi := ?oirc0) (v := .slice (some ⟨g, 0, none⟩) M (cap)) ?hirc0 (by kernel_rfl) (by kernel_rfl) (by kernel_rfl) ?hqrc0 ?hyrc0 hHeld ?hrrc0
    case hirc0 =>
      simp only [List.getElem?_toArray, List.getElem?_cons_succ, List.getElem?_cons_zero]
      rfl
    case hqrc0 => exact fun _ _ _ h => h
    case hyrc0 => exact Or.inl ⟨by kernel_rfl, fun w hSw => by go_simp⟩
    try simp only [Act.put, List.setIfInBounds_toArray, List.set_cons_zero, List.set_cons_succ]
    refine wpAnyH_take (i := 1) (oi := ?oirc1) (v := .int .i64 (a : Int)) ?hirc1 (by kernel_rfl) (by kernel_rfl) (by kernel_rfl) ?hqrc1 ?hyrc1 hHeld ?hrrc1
    case hirc1 =>
      simp only [List.getElem?_toArray, List.getElem?_cons_succ, List.getElem?_cons_zero]
      rfl
    case hqrc1 => exact fun _ _ _ h => h
    case hyrc1 => exact Or.inl ⟨by kernel_rfl, fun w hSw => by go_simp⟩
    try simp only [Act.put, List.setIfInBounds_toArray, List.set_cons_zero, List.set_cons_succ]
    refine wpAnyH_take (i := 2) (oi := ?oirc2) (v := .int .i64 (1 : Int)) ?hirc2 (by kernel_rfl) (by kernel_rfl) (by kernel_rfl) ?hqrc2 ?hyrc2 hHeld ?hrrc2
    case hirc2 =>
      simp only [List.getElem?_toArray, List.getElem?_cons_succ, List.getElem?_cons_zero]
      rfl
    case hqrc2 => exact fun _ _ _ h => h
    case hyrc2 => exact Or.inl ⟨by kernel_rfl, fun w hSw => by go_simp⟩
    try simp only [Act.put, List.setIfInBounds_toArray, List.set_cons_zero, List.set_cons_succ]
    refine wpAnyH_take (i := 3) (oi := ?oirc3) (v := .int .i64 (J : Int)) ?hirc3 (by kernel_rfl) (by kernel_rfl) (by kernel_rfl) ?hqrc3 ?hyrc3 hHeld ?hrrc3
    case hirc3 =>
      simp only [List.getElem?_toArray, List.getElem?_cons_succ, List.getElem?_cons_zero]
      rfl
    case hqrc3 => exact fun _ _ _ h => h
    case hyrc3 => exact Or.inl ⟨by kernel_rfl, fun w hSw => by go_simp⟩
    try simp only [Act.put, List.setIfInBounds_toArray, List.set_cons_zero, List.set_cons_succ]
    refine wpAnyH_take (i := 4) (oi := ?oirc4) (v := .slice (some ⟨g, J * 3, none⟩) r (cap - J)) ?hirc4 (by kernel_rfl) (by kernel_rfl) (by kernel_rfl) ?hqrc4 ?hyrc4 hHeld ?hrrc4
    case hirc4 =>
      simp only [List.getElem?_toArray, List.getElem?_cons_succ, List.getElem?_cons_zero]
      rfl
    case hqrc4 => exact fun _ _ _ h => h
    case hyrc4 => exact Or.inl ⟨by kernel_rfl, fun w hSw => by go_simp⟩
    try simp only [Act.put, List.setIfInBounds_toArray, List.set_cons_zero, List.set_cons_succ]
    refine wpAnyH_take (i := 5) (oi := ?oirc5) (v := .slice (some ⟨g, 0, none⟩) M (cap)) ?hirc5 (by kernel_rfl) (by kernel_rfl) (by kernel_rfl) ?hqrc5 ?hyrc5 hHeld ?hrrc5
    case hirc5 =>
      simp only [List.getElem?_toArray, List.getElem?_cons_succ, List.getElem?_cons_zero]
      rfl
    case hqrc5 => exact fun _ _ _ h => h
    case hyrc5 => exact Or.inl ⟨by kernel_rfl, fun w hSw => by go_simp⟩
    try simp only [Act.put, List.setIfInBounds_toArray, List.set_cons_zero, List.set_cons_succ]
    refine wpAnyH_take (i := 6) (oi := ?oirc6) (v := .int .i64 (a : Int)) ?hirc6 (by kernel_rfl) (by kernel_rfl) (by kernel_rfl) ?hqrc6 ?hyrc6 hHeld ?hrrc6
    case hirc6 =>
      simp only [List.getElem?_toArray, List.getElem?_cons_succ, List.getElem?_cons_zero]
      rfl
    case hqrc6 => exact fun _ _ _ h => h
    case hyrc6 => exact Or.inl ⟨by kernel_rfl, fun w hSw => by go_simp⟩
    try simp only [Act.put, List.setIfInBounds_toArray, List.set_cons_zero, List.set_cons_succ]
    refine wpAnyH_take (i := 7) (oi := ?oirc7) (v := .slice (some ⟨g, a * 3, none⟩) (r + 1) (cap - a)) ?hirc7 (by kernel_rfl) (by kernel_rfl) (by kernel_rfl) ?hqrc7 ?hyrc7 hHeld ?hrrc7
    case hirc7 =>
      simp only [List.getElem?_toArray, List.getElem?_cons_succ, List.getElem?_cons_zero]
      rfl
    case hqrc7 => exact fun _ _ _ h => h
    case hyrc7 => exact Or.inl ⟨by kernel_rfl, fun w hSw => by go_simp⟩
    try simp only [Act.put, List.setIfInBounds_toArray, List.set_cons_zero, List.set_cons_succ]
    refine wpAnyH_ready (rs := [8]) (by kernel_rfl) (by simp) ?_
    refine (AllReadyH.cons (o := ?oorc8) ?horc8 (fun K hK => ?hkrc8) AllReadyH.nil)
    case horc8 =>
      simp only [List.getElem?_toArray, List.getElem?_cons_succ, List.getElem?_cons_zero]
      rfl
    case hkrc8 =>
      refine step_copyS rfl (.tmp 73) (.tmp 76) 32 32 rfl 37 3 (by decide) Try.underlying32 hsz (some ⟨g, J * 3, none⟩) (some ⟨g, a * 3, none⟩) r (cap - J) (r + 1) (cap - a)  rfl rfl g (J * 3) _ _ HGD.out (cells3 (s0 :: B)) HQ1.out (fun _ => ⟨rfl, _, rfl, HSD.out⟩) HQ2.out (cells3_one _) ?_
      intro w3 hg4 gr4
      refine hK.out _ _ trivial (fun hHeld => ?_)
      clear hK K
      try simp only [Act.put, List.setIfInBounds_toArray, List.set_cons_zero, List.set_cons_succ]
      refine wpAnyH_done (by kernel_rfl) ?_ _
      have HG5 : Hid (w3.heap[g]? = _) := HGB.out w3 hg4.out
      have HL5 : Hid (w3.heap[b]? = _) := lit_kept (lit_kept HL1.out HGR.out HBN.out) gr4 HBN.out
      have L5 : Hid (∀ j u, (cells3 [(⟨k, x, y⟩ : Stm)])[j]? = some u → w3.cell? ((⟨b, 0, none⟩ : Addr).add j) = some u) := lit_cells HL5.out
      have HGF : Hid (w.grownBy w3 (some g)) := grown_trans HGR.out gr4
      clear gr4 hg4
      go_wp2_with (first | (refine wpList_copyS rfl (.tmp 80) (.tmp 81) 32 32 rfl 37 3 (by decide) Try.underlying32 hsz (some ⟨g, a * 3, none⟩) (some ⟨b, 0, none⟩) (r + 1) (cap - a) 1 1 rfl rfl g (a * 3) _ _ HG5.out (cells3 [⟨k, x, y⟩]) HQ3.out (fun _ => ⟨rfl, _, rfl, L5.out⟩) HQ4.out (cells3_one _) ?_; intro w4 hg5 gr5))
      have HG6 : Hid (w4.heap[g]? = _) := HGC.out w4 hg5.out
      have HGG : Hid (w.grownBy w4 (some g)) := grown_trans HGF.out gr5
      clear gr5 hg5
      try (dsimp only [Act.put]; simp only [List.setIfInBounds_toArray, List.set_cons_zero, List.set_cons_succ])
      go_wp2
      go_ret
      obtain ⟨q1, q2, q3⟩ := HC63.out
      exact ⟨g, cap, rfl, HF.out w4 g cap sp1 HX.out q2 q1 q3 HG6.out, HGG.out, .inl rfl⟩
  · have h7 : (cap : Int) < (M : Int) := by omega
    have hMai : (M : Int) - (a : Int) = ((r + 1 : Nat) : Int) := by omega
    have haM2 : a + (r + 1) = M := by omega
    have hold : ∀ j u, (cells3 A)[j]? = some u → w.cell? ⟨g, j, none⟩ = some u := fun j u hj => by
      have hjl := (List.getElem?_eq_some_iff.1 hj).1
      rw [row_cell HG.out, List.getElem?_append_left hjl]; exact hj
    obtain ⟨R1, hR1⟩ : ∃ R1, r + 1 = R1 := ⟨_, rfl⟩
    rw [hR1] at hMai haM2 hMa hm1
    have hna : n - a = r := hr
    have hcA : cap < a + R1 := by omega
    have hsmA : a + R1 ≤ 1000 := by omega
    have hR0 : 0 < R1 := by omega
    have HQ3 : Hid ((cells3 [(⟨k, x, y⟩ : Stm)]).length = Nat.min 1 R1 * 3) := by
      show _ = _
      rw [hm1]; rfl
    have HQ1 : Hid ((cells3 (s0 :: B)).length = Nat.min r r * 3) := by
      show _ = _
      rw [hmm, hlB]
    have HL1 : Hid (w.heap[b]? = some (.cells #[.int .i64 k, .int .i64 x, .int .i64 y] 37 (0, 0))) := hb
    have HOL : Hid _ := hold
    have HLA : Hid _ := hlA
    have HAL : Hid (a + 1 = J ∧ n + 1 = M ∧ n - a = r ∧ a + 1 + B.length = n ∧ r + 1 = R1) := ⟨hJ, hM, hr, hn, hR1⟩
    have HLB : Hid _ := hlB
    have HBS : Hid (base ≤ w.heap.size ∧ g < w.heap.size ∧ b < w.heap.size) := ⟨hbase, hgl, hbl⟩
    have HZL : Hid (∀ c : Nat, M ≤ c → ¬ c = a ∧ ¬ c = J ∧ (a : Int) ≤ (c : Int)) := fun c hc => by obtain ⟨_, _, _, _⟩ := HAL.out; exact ⟨by omega, by omega, by omega⟩
    clear hfin hsrc hJ hM hr hn hg hb L1 hsp hroom hmm hm1 hm2 e1 hold hlA hlB hR1 hgl hbl
    go_enter Try.func63, Try.ntmps63
    go_wp2_with (first
      | (at_builtin; refine wpList_appZ rfl (.tmp 34) (.tmp 39) 32 3 rfl 37 i0 (.agg #[.int .i64 0, .int .i64 0, .int .i64 0]) 3 24 Try.underlying32 Try.underlying3 hi hz0 hz1 hz2 rfl (by decide) (by decide) g a cap rfl (cells3 A) HLA.out HOL.out R1 rfl hR0 hcA hsmA ?_; intro c1 Z w1 hG1 hZ B1; refine stop13 ?_))
    unfold Stop13
    obtain ⟨hZl, hMc, hcm1⟩ := hZ.out
    rw [haM2] at hMc
    obtain ⟨z1, z2, z3⟩ := HZL.out c1 hMc
    unfold maxLen at hcm1
    obtain ⟨Z0, Z1, Z2, hZ3, hZ0, hZ1, hZ2⟩ : ∃ Z0 Z1 Z2, Z = Z0 ++ (Z1 ++ Z2) ∧ Z0.length = 3 ∧ Z1.length = r * 3 ∧ Z2.length = (c1 - M) * 3 := by
      obtain ⟨q1, q2, q3, q4, q5⟩ := HAL.out
      refine ⟨Z.take 3, (Z.drop 3).take (r * 3), (Z.drop 3).drop (r * 3), ?_, ?_, ?_, ?_⟩
      · rw [List.take_append_drop, List.take_append_drop]
      · rw [List.length_take, hZl]; omega
      · rw [List.length_take, List.length_drop, hZl]; omega
      · rw [List.length_drop, List.length_drop, hZl]; omega
    have HG1 : Hid (w1.heap[w.heap.size]? = some (.cells (cells3 A ++ (Z0 ++ (Z1 ++ Z2))).toArray 37 (0, 0))) := by
      have := hG1.out
      rw [hZ3] at this
      exact this
    have HQ4 : Hid (a * 3 + (cells3 [(⟨k, x, y⟩ : Stm)]).length ≤ (cells3 A ++ (Z0 ++ (Z1 ++ Z2))).length) := by
      show _ ≤ _
      rw [List.length_append, List.length_append, HLA.out, hZ0]
      simp [cells3]
    have HB1 : Hid _ := B1
    have HL2 : Hid (w1.heap[b]? = _) := (B1.block b HBS.out.2.2).trans HL1.out
    have L2 : Hid (∀ j u, (cells3 [(⟨k, x, y⟩ : Stm)])[j]? = some u → w1.cell? ((⟨b, 0, none⟩ : Addr).add j) = some u) := lit_cells HL2.out
    have HG2 : Hid (w1.heap[g]? = _) := (B1.block g HBS.out.2.1).trans HG.out
    have HCC : Hid (c1 ≤ 9223372036854775807) := by show _ ≤ _; omega
    have hcc : (c1 : Int) ≤ 9223372036854775807 := by omega
    have HZ0 : Hid _ := hZ0
    have HZ1 : Hid _ := hZ1
    have HZ2 : Hid _ := hZ2
    have HMC : Hid (M ≤ c1) := hMc
    have HGF : Hid (∀ w4 : World, w4.heap[w.heap.size]? = some (.cells (splice (splice (cells3 A ++ (Z0 ++ (Z1 ++ Z2))) (a * 3) (cells3 [⟨k, x, y⟩])) (J * 3) (cells3 (s0 :: B))).toArray 37 (0, 0)) → w4.heap[w.heap.size]? = some (.cells (cells3 A ++ (cells3 [⟨k, x, y⟩] ++ (cells3 (s0 :: B) ++ Z2))).toArray 37 (0, 0))) := fun w4 h => by
      obtain ⟨q1, q2, q3, q4, q5⟩ := HAL.out
      rw [splice_mid _ _ _ _ _ HLA.out (by rw [HZ0.out]; rfl), ← List.append_assoc, splice_mid _ _ _ _ _ (by rw [List.length_append, HLA.out]; simp [cells3]; omega) (by rw [HLB.out, HZ1.out]), List.append_assoc] at h
      exact h
    have HQ5 : Hid (J * 3 + (cells3 (s0 :: B)).length ≤ (splice (cells3 A ++ (Z0 ++ (Z1 ++ Z2))) (a * 3) (cells3 [⟨k, x, y⟩])).length) := by
      show _ ≤ _
      obtain ⟨q1, q2, q3, q4, q5⟩ := HAL.out
      rw [splice_mid _ _ _ _ _ HLA.out (by rw [HZ0.out]; rfl), List.length_append, List.length_append, List.length_append, HLA.out, HLB.out, HZ1.out]
      simp [cells3]
      omega
    clear hG1 hZ hZl hMc hcm1 hZ3 hZ0 hZ1 hZ2 B1
    go_wp2_with (first
      | (refine wpList_copyS rfl (.tmp 43) (.tmp 44) 32 32 rfl 37 3 (by decide) Try.underlying32 hsz (some ⟨w.heap.size, a * 3, none⟩) (some ⟨b, 0, none⟩) R1 (c1 - a) 1 1 rfl rfl w.heap.size (a * 3) _ _ HG1.out (cells3 [⟨k, x, y⟩]) HQ3.out (fun _ => ⟨rfl, _, rfl, L2.out⟩) HQ4.out (cells3_one _) ?_; intro w2 hg2 gr2))
    have HN : Hid (g ≠ w.heap.size) := Nat.ne_of_lt HBS.out.2.1
    have HG3 : Hid (w2.drew.heap[w.heap.size]? = _) := hg2.out
    have HG4 : Hid (w2.drew.heap[g]? = some (.cells (cells3 A ++ (cells3 (s0 :: B) ++ sp)).toArray 37 (0, 0))) := (lit_kept HG2.out gr2 HN.out : w2.heap[g]? = _)
    have HS4 : Hid (∀ j u, (cells3 (s0 :: B))[j]? = some u → w2.drew.cell? ((⟨g, a * 3, none⟩ : Addr).add j) = some u) := HSR.out w2.drew HG4.out
    have HB3 : Hid (Below w.heap.size w w2.drew) := Below.drew (HB1.out.grown gr2 HB1.out.size (fun q hq => Nat.le_of_eq (Option.some.inj hq)))
    clear gr2
    try (dsimp only [Act.put]; simp only [List.setIfInBounds_toArray, List.set_cons_zero, List.set_cons_succ])
    refine wp_region_held_drew (S := fun _ => True) (by kernel_rfl) trivial (fun hHeld => ?_)
    refine wpAnyH_take (i := 0) (oi := ?oird0) (v := .slice (some ⟨w.heap.size, 0, none⟩) M (c1)) ?hird0 (by kernel_rfl) (by kernel_rfl) (by kernel_rfl) ?hqrd0 ?hyrd0 hHeld ?hrrd0
    case hird0 =>
      simp only [List.getElem?_toArray, List.getElem?_cons_succ, List.getElem?_cons_zero]
      rfl
    case hqrd0 => exact fun _ _ _ h => h
    case hyrd0 => exact Or.inl ⟨by kernel_rfl, fun w hSw => by go_simp⟩
    try simp only [Act.put, List.setIfInBounds_toArray, List.set_cons_zero, List.set_cons_succ]
    refine wpAnyH_take (i := 1) (oi := ?oird1) (v := .int .i64 (a : Int)) ?hird1 (by kernel_rfl) (by kernel_rfl) (by kernel_rfl) ?hqrd1 ?hyrd1 hHeld ?hrrd1
    case hird1 =>
      simp only [List.getElem?_toArray, List.getElem?_cons_succ, List.getElem?_cons_zero]
      rfl
    case hqrd1 => exact fun _ _ _ h => h
    case hyrd1 => exact Or.inl ⟨by kernel_rfl, fun w hSw => by go_simp⟩
    try simp only [Act.put, List.setIfInBounds_toArray, List.set_cons_zero, List.set_cons_succ]
    refine wpAnyH_take (i := 2) (oi := ?oird2) (v := .int .i64 (1 : Int)) ?hird2 (by kernel_rfl) (by kernel_rfl) (by kernel_rfl) ?hqrd2 ?hyrd2 hHeld ?hrrd2
    case hird2 =>
      simp only [List.getElem?_toArray, List.getElem?_cons_succ, List.getElem?_cons_zero]
      rfl
    case hqrd2 => exact fun _ _ _ h => h
    case hyrd2 => exact Or.inl ⟨by kernel_rfl, fun w hSw => by go_simp⟩
    try simp only [Act.put, List.setIfInBounds_toArray, List.set_cons_zero, List.set_cons_succ]
    refine wpAnyH_take (i := 3) (oi := ?oird3) (v := .int .i64 (J : Int)) ?hird3 (by kernel_rfl) (by kernel_rfl) (by kernel_rfl) ?hqrd3 ?hyrd3 hHeld ?hrrd3
    case hird3 =>
      simp only [List.getElem?_toArray, List.getElem?_cons_succ, List.getElem?_cons_zero]
      rfl
    case hqrd3 => exact fun _ _ _ h => h
    case hyrd3 => exact Or.inl ⟨by kernel_rfl, fun w hSw => by go_simp⟩
    try simp only [Act.put, List.setIfInBounds_toArray, List.set_cons_zero, List.set_cons_succ]
    refine wpAnyH_take (i := 4) (oi := ?oird4) (v := .slice (some ⟨w.heap.size, J * 3, none⟩) r (c1 - J)) ?hird4 (by kernel_rfl) (by kernel_rfl) (by kernel_rfl) ?hqrd4 ?hyrd4 hHeld ?hrrd4
    case hird4 =>
      simp only [List.getElem?_toArray, List.getElem?_cons_succ, List.getElem?_cons_zero]
      rfl
    case hqrd4 => exact fun _ _ _ h => h
    case hyrd4 => exact Or.inl ⟨by kernel_rfl, fun w hSw => by go_simp⟩
    try simp only [Act.put, List.setIfInBounds_toArray, List.set_cons_zero, List.set_cons_succ]
    refine wpAnyH_take (i := 5) (oi := ?oird5) (v := .slice (some ⟨g, 0, none⟩) n (cap)) ?hird5 (by kernel_rfl) (by kernel_rfl) (by kernel_rfl) ?hqrd5 ?hyrd5 hHeld ?hrrd5
    case hird5 =>
      simp only [List.getElem?_toArray, List.getElem?_cons_succ, List.getElem?_cons_zero]
      rfl
    case hqrd5 => exact fun _ _ _ h => h
    case hyrd5 => exact Or.inl ⟨by kernel_rfl, fun w hSw => by go_simp⟩
    try simp only [Act.put, List.setIfInBounds_toArray, List.set_cons_zero, List.set_cons_succ]
    refine wpAnyH_take (i := 6) (oi := ?oird6) (v := .int .i64 (a : Int)) ?hird6 (by kernel_rfl) (by kernel_rfl) (by kernel_rfl) ?hqrd6 ?hyrd6 hHeld ?hrrd6
    case hird6 =>
      simp only [List.getElem?_toArray, List.getElem?_cons_succ, List.getElem?_cons_zero]
      rfl
    case hqrd6 => exact fun _ _ _ h => h
    case hyrd6 => exact Or.inl ⟨by kernel_rfl, fun w hSw => by go_simp⟩
    try simp only [Act.put, List.setIfInBounds_toArray, List.set_cons_zero, List.set_cons_succ]
    refine wpAnyH_take (i := 7) (oi := ?oird7) (v := .slice (some ⟨g, a * 3, none⟩) r (cap - a)) ?hird7 (by kernel_rfl) (by kernel_rfl) (by kernel_rfl) ?hqrd7 ?hyrd7 hHeld ?hrrd7
    case hird7 =>
      simp only [List.getElem?_toArray, List.getElem?_cons_succ, List.getElem?_cons_zero]
      rfl
    case hqrd7 => exact fun _ _ _ h => h
    case hyrd7 => exact Or.inl ⟨by kernel_rfl, fun w hSw => by go_simp⟩
    try simp only [Act.put, List.setIfInBounds_toArray, List.set_cons_zero, List.set_cons_succ]
    refine wpAnyH_ready (rs := [8]) (by kernel_rfl) (by simp) ?_
    refine (AllReadyH.cons (o := ?oord8) ?hord8 (fun K hK => ?hkrd8) AllReadyH.nil)
    case hord8 =>
      simp only [List.getElem?_toArray, List.getElem?_cons_succ, List.getElem?_cons_zero]
      rfl
    case hkrd8 =>
      refine step_copyS rfl (.tmp 50) (.tmp 53) 32 32 rfl 37 3 (by decide) Try.underlying32 hsz (some ⟨w.heap.size, J * 3, none⟩) (some ⟨g, a * 3, none⟩) r (c1 - J) r (cap - a)  rfl rfl w.heap.size (J * 3) _ _ HG3.out (cells3 (s0 :: B)) HQ1.out (fun _ => ⟨rfl, _, rfl, HS4.out⟩) HQ5.out (cells3_one _) ?_
      intro w3 hg4 gr4
      refine hK.out _ _ trivial (fun hHeld => ?_)
      clear hK K
      try simp only [Act.put, List.setIfInBounds_toArray, List.set_cons_zero, List.set_cons_succ]
      refine wpAnyH_done (by kernel_rfl) ?_ _
      have HG5 : Hid (w3.heap[w.heap.size]? = _) := HGF.out w3 hg4.out
      have HB5 : Hid (Below w.heap.size w w3) := HB3.out.grown gr4 HB3.out.size (fun q hq => Nat.le_of_eq (Option.some.inj hq))
      clear gr4 hg4
      go_wp2
      go_ret
      exact ⟨w.heap.size, c1, rfl, HF.out w3 w.heap.size c1 Z2 HZ2.out HMC.out HCC.out HBS.out.1 HG5.out, grown_of_below HB5.out _, .inr (Nat.le_refl _)⟩

end Go.Proofs.Ytoflfeegllpifaa
