/-
 Put together out of: SpecCp, Do13M.
-/
import Derived.Test.YtldagpfeaabcdaaGreatDoorG04ImplEd
import Derived.Deep.AppendLies
import Derived.Deep.Upon
namespace Go.Proofs.YtldagpfeaabcdaaGreatDoor
open Go.RowKit
set_option linter.unusedVariables false
set_option linter.unusedSimpArgs false
set_option maxHeartbeats 4000000
set_option maxRecDepth 20000
theorem Own13.app {W w' : World} {base : Nat} {u u' x : Value} {us : List Value} {qs : List (List Stm)} {p : List Stm} (h : Own13 W base u us qs) (hx : W.ownsRow base 52 3 x p.length (ja3 p))
 (hf : ∀ y ∈ us, ∀ k, y.ownBlock = some k → x.ownBlock ≠ some k) (hg : W.grownBy w' u.ownBlock) (ho : w'.ownsRow base 63 1 u' (qs.length + 1) (us ++ [x])) : Own13 w' base u' (us ++ [x]) (qs ++ [p]) := by
 have hul := h.len
 have kn : ∀ {u : Value} {r : List Stm}, W.ownsRow base 52 3 u r.length (ja3 r) → w'.ownsRow base 52 3 u r.length (ja3 r) := fun {u r} hu => jd5 hu hg (fun k hk e => jx3 hu h.row (by decide) k hk e)
 refine ⟨by simpa using ho, fun j y r h1 h2 => ?_, fun a b y z k hne hy hz hk hk' => ?_⟩
 · by_cases hj : j < us.length
   · rw [List.getElem?_append_left hj] at h1
     rw [List.getElem?_append_left (by omega)] at h2
     exact kn (h.each j y r h1 h2)
   · have h9 := (List.getElem?_eq_some_iff.1 h1).1
     simp at h9
     have hj' : j = us.length := by omega
     subst hj'
     rw [hul] at h2
     simp at h1 h2
     subst h1 h2
     exact kn hx
 · have sp : ∀ {i : Nat} {a : Value}, (us ++ [x])[i]? = some a → (i < us.length ∧ us[i]? = some a) ∨ (i = us.length ∧ a = x) := by
    intro i a h
    by_cases hi : i < us.length
    · rw [List.getElem?_append_left hi] at h
      exact .inl ⟨hi, h⟩
    · have h9 := (List.getElem?_eq_some_iff.1 h).1
      simp at h9
      have hi' : i = us.length := by omega
      subst hi'
      simp at h
      exact .inr ⟨rfl, h.symm⟩
   rcases sp hy with ⟨_, h1⟩ | ⟨e1, rfl⟩
   · rcases sp hz with ⟨_, h2⟩ | ⟨e2, rfl⟩
     · exact h.ap a b y z k hne h1 h2 hk hk'
     · exact hf y (List.mem_of_getElem? h1) k hk hk'
   · rcases sp hz with ⟨_, h2⟩ | ⟨e2, rfl⟩
     · exact hf z (List.mem_of_getElem? h2) k hk' hk
     · omega
theorem Own13.lts {w : World} {base : Nat} {v : Value} {us : List Value} {ps : List (List Stm)} (h : Own13 w base v us ps) : ∀ y ∈ us, ∀ k, y.ownBlock = some k → k < w.heap.size := fun y hy k hk => by
 obtain ⟨j, hj⟩ := List.getElem?_of_mem hy
 have hjl := (List.getElem?_eq_some_iff.1 hj).1
 rw [h.len] at hjl
 exact ((h.each j y ps[j] hj (by simp)).lt k hk).2
theorem jo2 {w : World} {p : List Stm} {g off m c : Nat} (h0 : 0 < p.length) (h : jk5 w (.slice (some ⟨g, off, none⟩) m c) p) : m = p.length ∧ ∀ j u, (ja3 p)[j]? = some u → w.cell? ((⟨g, off, none⟩ : Addr).add j) = some u := by
 obtain ⟨ao, cap, e, hc⟩ := h
 injection e with e1 e2 e3
 subst e1 e2
 refine ⟨rfl, fun j u hu => ?_⟩
 have hjl := (List.getElem?_eq_some_iff.1 hu).1
 rw [je0] at hjl
 obtain ⟨g', off', e, q0, q1, q2⟩ := hc (j / 3) p[j / 3] (by simp)
 simp only [Option.some.injEq, Addr.mk.injEq, and_true] at e
 obtain ⟨rfl, rfl⟩ := e
 obtain ⟨a0, a1, a2⟩ := jk7 p (j / 3) p[j / 3] (by simp)
 rw [Addr.add_lit]
 rcases (by omega : j % 3 = 0 ∨ j % 3 = 1 ∨ j % 3 = 2) with h | h | h
 · have ej : j = j / 3 * 3 := by omega
   rw [← ej] at a0 q0
   rw [hu] at a0
   rw [q0, a0]
 · have ej : j = j / 3 * 3 + 1 := by omega
   rw [← ej] at a1
   rw [Nat.add_assoc, ← ej] at q1
   rw [hu] at a1
   rw [q1, a1]
 · have ej : j = j / 3 * 3 + 2 := by omega
   rw [← ej] at a2
   rw [Nat.add_assoc, ← ej] at q2
   rw [hu] at a2
   rw [q2, a2]
theorem qb5 {w : World} {p : List Stm} {u : Value} (h0 : 0 < p.length) (h : jk5 w u p) : ∃ g off c, u = .slice (some ⟨g, off, none⟩) p.length c := by
 obtain ⟨ao, cap, rfl, hc⟩ := h
 obtain ⟨g, off, rfl, _⟩ := hc 0 p[0] (by simp [h0])
 exact ⟨g, off, cap, rfl⟩
theorem l3Copy (ps : List (List Stm)) (v : Value) (w : World) (h0 : 0 < ps.length) (hl : ps.length ≤ 100) (hp : ∀ p ∈ ps, 0 < p.length ∧ p.length ≤ 100) (hv : jb5 w v ps) :
 Calls Tryz.prog 49 #[.agg #[v]] w fun e w' => ∃ u us, e = .returned (.agg #[u]) ∧ Own13 w' w.heap.size u us ps ∧ Below w.heap.size w w' := by
 obtain ⟨i0, hi0, hz0, hz1, hz2⟩ := info_parts js1
 obtain ⟨j0, hj0, hy0, hy1, hy2⟩ := info_parts qa3
 obtain ⟨ao, vcap, rfl, hcv⟩ := id hv
 obtain ⟨W0, hW0⟩ : ∃ W0, ((w.alloc (.cells #[.slice ao ps.length vcap] 26)).alloc (.cells #[.slice none 0 0] 26)).alloc (.cells #[.slice none 0 0] 26) = W0 := ⟨_, rfl⟩
 have b0 : Below w.heap.size w W0 := by rw [← hW0]; go_grown
 have s0 : W0.heap.size = w.heap.size + 3 := by rw [← hW0]; simp
 have H0 : W0.heap[w.heap.size]? = some (.cells #[.slice ao ps.length vcap] 26 (0, 0)) := by rw [← hW0, ja2 (by simp; omega), ja2 (by simp)]; exact heap_alloc_new w _
 have H1 : W0.heap[w.heap.size + 1]? = some (.cells #[.slice none 0 0] 26 (0, 0)) := by
  rw [← hW0, ja2 (by simp)]
  have := heap_alloc_new (w.alloc (.cells #[.slice ao ps.length vcap] 26)) (.cells #[.slice none 0 0] 26)
  simpa using this
 have H2 : W0.heap[w.heap.size + 1 + 1]? = some (.cells #[.slice none 0 0] 26 (0, 0)) := by
  rw [← hW0]
  have := heap_alloc_new ((w.alloc (.cells #[.slice ao ps.length vcap] 26)).alloc (.cells #[.slice none 0 0] 26)) (.cells #[.slice none 0 0] 26)
  simpa using this
 have HS0 : Hid (W0.heap.size = w.heap.size + 3) := s0
 have HW0 : Hid _ := hW0
 clear hW0
 go_enter Tryz.func49, Tryz.ntmps49
 go_wp2_with fail
 rw [HW0.out]
 clear HW0 s0
 have hb0z := b0.size
 go_loopw [4] (fun i wr => ∃ (j : Nat) (u : Value) (us : List Value), j ≤ ps.length ∧ i = .int .i64 j ∧ Own13 wr (w.heap.size + 3) u us (ps.take j) ∧ wr.heap[w.heap.size + 1 + 1]? = some (.cells #[u] 26 (0, 0)) ∧ wr.heap[w.heap.size + 1]? = some (.cells #[.slice none 0 0] 26 (0, 0)) ∧ wr.heap[w.heap.size]? = some (.cells #[.slice ao ps.length vcap] 26 (0, 0)) ∧ Below w.heap.size w wr ∧ w.heap.size + 3 ≤ wr.heap.size) (fun i _ => ps.length - (intOf i).toNat)
 case atStart => exact ⟨0, .slice none 0 0, [], Nat.zero_le _, rfl, jn5 _ _, H2, H1, H0, b0, by rw [HS0.out]; exact Nat.le_refl _⟩
 case round =>
  obtain ⟨j, u, us, hj, rfl, OW, B2, B1, B0, hb, hz⟩ := hrel
  have c0 := (ja4 B0).1
  have d0 := (ja4 B2).1
  obtain ⟨ua, um, uc, rfl⟩ := jd4 OW.row
  by_cases hlt : j < ps.length
  · have hlt' : (j : Int) < (ps.length : Int) := by omega
    obtain ⟨g, off, x, rfl, q0, r0⟩ := hcv j ps[j] (by simp)
    obtain ⟨hp0, hp1⟩ := hp ps[j] (List.getElem_mem hlt)
    have hgw : g < w.heap.size := World.block_lt_of_cell? w _ q0
    have q1 := (hb.cell (World.block_lt_of_cell? w _ q0)).trans q0
    have hgl := World.block_lt_of_cell? wr _ q1
    have r1 := jd0 r0 hb
    obtain ⟨gx, ox, cx, rfl⟩ := qb5 hp0 r1
    have htk := List.take_succ_eq_append_getElem hlt
    have htl : (ps.take j).length = j := by simp; omega
    have HTK : Hid _ := htk
    have HTL : Hid _ := htl
    have HOW : Hid (Own13 wr (w.heap.size + 3) (.slice ua um uc) us (ps.take j)) := OW
    have HR1 : Hid _ := r1
    have HB2 : Hid (wr.heap[w.heap.size + 1 + 1]? = some (.cells #[.slice ua um uc] 26 (0, 0))) := B2
    have HB1 : Hid (wr.heap[w.heap.size + 1]? = some (.cells #[.slice none 0 0] 26 (0, 0))) := B1
    have HB0 : Hid (wr.heap[w.heap.size]? = some (.cells #[.slice (some ⟨g, off, none⟩) ps.length vcap] 26 (0, 0))) := B0
    clear htk htl OW r1 r0 q0 hcv hv H0 H1 H2
    generalize ps[j] = p at *
    have hPl : w.heap.size < wr.heap.size := by omega
    have hA1 : w.heap.size < w.heap.size + 3 := by omega
    have hA2 : w.heap.size + 1 + 1 < w.heap.size + 3 := by omega
    have hA3 : g < w.heap.size + 3 := by omega
    have hOl : w.heap.size + 1 + 1 < wr.heap.size := by omega
    go_wp2_with fail
    refine jg2 (S := fun w' => w'.cell? ⟨w.heap.size, 0, none⟩ = some (.slice (some ⟨g, off, none⟩) ps.length vcap) ∧ w'.cell? ⟨w.heap.size + 1 + 1, 0, none⟩ = some (.slice ua um uc) ∧ w'.cell? ⟨g, off + j, none⟩ = some (.slice (some ⟨gx, ox, none⟩) p.length cx)) (late := fun j => j == 14) (by kernel_rfl) ⟨c0, d0, q1⟩ (fun hHl => ?_)
    refine ja1 (i := 0) (oi := ?oica0) (v := .pointer (some ⟨w.heap.size + 1 + 1, 0, none⟩)) ?_ (by kernel_rfl) (by kernel_rfl) (by kernel_rfl) (by kernel_rfl) ?_ ?_ hHl ?_
    rotate_left
    · simp only [gA, gB, gC]; rfl
    · exact fun _ _ _ h => h
    · exact Or.inl ⟨by kernel_rfl, fun w hSw => by go_simp⟩
    try simp only [Act.put, gD, gE, gF]
    refine ja1 (i := 1) (oi := ?oica1) (v := .slice ua um uc) ?_ (by kernel_rfl) (by kernel_rfl) (by kernel_rfl) (by kernel_rfl) ?_ ?_ hHl ?_
    rotate_left
    · simp only [gA, gB, gC]; rfl
    · exact fun _ _ _ h => h
    · exact Or.inl ⟨by kernel_rfl, fun w hSw => by obtain ⟨s1, s2, s3⟩ := hSw; go_simp⟩
    try simp only [Act.put, gD, gE, gF]
    refine ja1 (i := 3) (oi := ?oica3) (v := .pointer (some ⟨w.heap.size, 0, none⟩)) ?_ (by kernel_rfl) (by kernel_rfl) (by kernel_rfl) (by kernel_rfl) ?_ ?_ hHl ?_
    rotate_left
    · simp only [gA, gB, gC]; rfl
    · exact fun _ _ _ h => h
    · exact Or.inl ⟨by kernel_rfl, fun w hSw => by go_simp⟩
    try simp only [Act.put, gD, gE, gF]
    refine ja1 (i := 4) (oi := ?oica4) (v := .slice (some ⟨g, off, none⟩) ps.length vcap) ?_ (by kernel_rfl) (by kernel_rfl) (by kernel_rfl) (by kernel_rfl) ?_ ?_ hHl ?_
    rotate_left
    · simp only [gA, gB, gC]; rfl
    · exact fun _ _ _ h => h
    · exact Or.inl ⟨by kernel_rfl, fun w hSw => by obtain ⟨s1, s2, s3⟩ := hSw; go_simp⟩
    try simp only [Act.put, gD, gE, gF]
    refine ja1 (i := 5) (oi := ?oica5) (v := .int .i64 (j : Int)) ?_ (by kernel_rfl) (by kernel_rfl) (by kernel_rfl) (by kernel_rfl) ?_ ?_ hHl ?_
    rotate_left
    · simp only [gA, gB, gC]; rfl
    · exact fun _ _ _ h => h
    · exact Or.inl ⟨by kernel_rfl, fun w hSw => by go_simp⟩
    try simp only [Act.put, gD, gE, gF]
    refine ja1 (i := 6) (oi := ?oica6) (v := .pointer (some ⟨g, off + j, none⟩)) ?_ (by kernel_rfl) (by kernel_rfl) (by kernel_rfl) (by kernel_rfl) ?_ ?_ hHl ?_
    rotate_left
    · simp only [gA, gB, gC]; rfl
    · exact fun _ _ _ h => h
    · exact Or.inl ⟨by kernel_rfl, fun w hSw => by go_simp⟩
    try simp only [Act.put, gD, gE, gF]
    refine ja1 (i := 7) (oi := ?oica7) (v := .pointer (some ⟨g, off + j, none⟩)) ?_ (by kernel_rfl) (by kernel_rfl) (by kernel_rfl) (by kernel_rfl) ?_ ?_ hHl ?_
    rotate_left
    · simp only [gA, gB, gC]; rfl
    · exact fun _ _ _ h => h
    · exact Or.inl ⟨by kernel_rfl, fun w hSw => by go_simp⟩
    try simp only [Act.put, gD, gE, gF]
    refine ja1 (i := 8) (oi := ?oica8) (v := .slice (some ⟨gx, ox, none⟩) p.length cx) ?_ (by kernel_rfl) (by kernel_rfl) (by kernel_rfl) (by kernel_rfl) ?_ ?_ hHl ?_
    rotate_left
    · simp only [gA, gB, gC]; rfl
    · exact fun _ _ _ h => h
    · exact Or.inl ⟨by kernel_rfl, fun w hSw => by obtain ⟨s1, s2, s3⟩ := hSw; go_simp⟩
    try simp only [Act.put, gD, gE, gF]
    refine ja7 (rs := [2]) (by kernel_rfl) (by simp) (AllReadyG.cons (o := ?ooca2) ?_ (fun K hK => ?_) AllReadyG.nil)
    rotate_left
    · simp only [gA, gB, gC]; rfl
    go_simp
    try go_wp2_with fail
    have Ba : Hid (Below wr.heap.size wr (wr.alloc (.cells #[] 52)).drew) := Below.drew (Below.alloc (Below.refl _ _) (Nat.le_refl _) _)
    have Va : Hid ((wr.alloc (.cells #[] 52)).drew.ownsRow wr.heap.size 52 3 (.slice (some ⟨wr.heap.size, 0, none⟩) 0 0) 0 []) := World.ownsRow_made wr #[] 0 (Nat.le_refl _) (by unfold maxLen; omega) rfl
    have qa : wr.heap.size < (wr.alloc (.cells #[] 52)).drew.heap.size := by simp
    generalize (wr.alloc (.cells #[] 52)).drew = wa at *
    refine hK.out _ _ (Or.inr ⟨(Ba.out.cell hPl).trans c0, (Ba.out.cell hOl).trans d0, (Ba.out.cell hgl).trans q1⟩) (fun hHl => ?_)
    replace hHl := hHl.resolve_left (by decide)
    clear hK K
    try simp only [Act.put, gD, gE, gF]
    refine ja7 (rs := [9]) (by kernel_rfl) (by simp) (AllReadyG.cons (o := ?ooca9) ?_ (fun K hK => ?_) AllReadyG.nil)
    rotate_left
    · simp only [gA, gB, gC]; rfl
    obtain ⟨_, hcs⟩ := jo2 hp0 (jd0 HR1.out Ba.out)
    refine step_append_lies _ rfl (.tmp 15) (.tmp 21) 61 rfl wr.heap.size 52 i0 (.agg #[.int .i64 0, .int .i64 0, .int .i64 0]) 3 24 Tryz.underlying61 hi0 hz0 hz1 hz2 rfl (by decide) (.slice (some ⟨wr.heap.size, 0, none⟩) 0 0) 0 [] rfl Va.out ⟨gx, ox, none⟩ p.length cx (ja3 p) rfl (je0 p) hcs (je4 p) hp0 (by unfold maxLen; omega) (by omega) (by omega) _ rfl ?_
    intro gn cn w9 own9 grow9 _ _
    clear hcs
    have V9 : Hid (w9.ownsRow wr.heap.size 52 3 (.slice (some ⟨gn, 0, none⟩) p.length cn) p.length (ja3 p)) := by (have hh := own9; simp only [Nat.zero_add, List.nil_append] at hh; exact hh)
    have B9 : Hid (Below wr.heap.size wr w9) := Ba.out.grown grow9 Ba.out.size (fun k hk => Nat.le_of_eq (Option.some.inj (show some wr.heap.size = some k from hk)))
    clear own9 grow9
    simp only [Nat.zero_add]
    refine hK.out _ _ (Or.inr ⟨(B9.out.cell hPl).trans c0, (B9.out.cell hOl).trans d0, (B9.out.cell hgl).trans q1⟩) (fun hHl => ?_)
    replace hHl := hHl.resolve_left (by decide)
    clear hK K
    try simp only [Act.put, gD, gE, gF]
    refine ja1 (i := 10) (oi := ?oica10) (v := .agg #[.slice (some ⟨gn, 0, none⟩) p.length cn]) ?_ (by kernel_rfl) (by kernel_rfl) (by kernel_rfl) (by kernel_rfl) ?_ ?_ hHl ?_
    rotate_left
    · simp only [gA, gB, gC]; rfl
    · exact fun _ _ _ h => h
    · exact Or.inl ⟨by kernel_rfl, fun w hSw => by go_simp⟩
    try simp only [Act.put, gD, gE, gF]
    refine ja7 (rs := [11]) (by kernel_rfl) (by simp) (AllReadyG.cons (o := ?ooca11) ?_ (fun K hK => ?_) AllReadyG.nil)
    rotate_left
    · simp only [gA, gB, gC]; rfl
    go_simp
    try go_wp2_with fail
    have Bl : Hid (Below wr.heap.size wr (w9.alloc (.cells #[.slice (some ⟨gn, 0, none⟩) p.length cn] 63))) := B9.out.alloc B9.out.size _
    have Vl : Hid ((w9.alloc (.cells #[.slice (some ⟨gn, 0, none⟩) p.length cn] 63)).ownsRow wr.heap.size 52 3 (.slice (some ⟨gn, 0, none⟩) p.length cn) p.length (ja3 p)) := World.ownsRow.alloc V9.out _
    have Ll : Hid ((w9.alloc (.cells #[.slice (some ⟨gn, 0, none⟩) p.length cn] 63)).heap[w9.heap.size]? = some (.cells #[.slice (some ⟨gn, 0, none⟩) p.length cn] 63 (0, 0))) := heap_alloc_new w9 _
    generalize (w9.alloc (.cells #[.slice (some ⟨gn, 0, none⟩) p.length cn] 63)) = wl at *
    refine hK.out _ _ (Or.inr ⟨(Bl.out.cell hPl).trans c0, (Bl.out.cell hOl).trans d0, (Bl.out.cell hgl).trans q1⟩) (fun hHl => ?_)
    replace hHl := hHl.resolve_left (by decide)
    clear hK K
    try simp only [Act.put, gD, gE, gF]
    refine ja7 (rs := [12]) (by kernel_rfl) (by simp) (AllReadyG.cons (o := ?ooca12) ?_ (fun K hK => ?_) AllReadyG.nil)
    rotate_left
    · simp only [gA, gB, gC]; rfl
    have OWl : Own13 wl (w.heap.size + 3) (.slice ua um uc) us (ps.take j) := HOW.out.kept Bl.out
    have rowl := OWl.row
    rw [HTL.out] at rowl
    refine step_append_lies _ rfl (.tmp 14) (.tmp 24) 24 rfl (w.heap.size + 3) 63 j0 (.agg #[.slice none 0 0]) 1 24 Tryz.underlying24 hj0 hy0 hy1 hy2 rfl (by decide) (.slice ua um uc) j us rfl rowl ⟨w9.heap.size, 0, none⟩ 1 1 [.slice (some ⟨gn, 0, none⟩) p.length cn] rfl rfl (World.news_of_block Ll.out) (by simp [Value.oneCell']) (by omega) (by unfold maxLen; omega) (by omega) (Nat.le_trans hz Bl.out.size) _ rfl ?_
    intro gq cq wq ownq growq _ _
    have hfr : ∀ y ∈ us, ∀ k, y.ownBlock = some k → (Value.slice (some ⟨gn, 0, none⟩) p.length cn).ownBlock ≠ some k := fun y hy k hk e => by (have h1 := HOW.out.lts y hy k hk; have h2 := (World.ownsRow.lt Vl.out gn rfl).1; have h3 : gn = k := Option.some.inj e; omega)
    have OWq : Hid (Own13 wq (w.heap.size + 3) (.slice (some ⟨gq, 0, none⟩) (j + 1) cq) (us ++ [.slice (some ⟨gn, 0, none⟩) p.length cn]) (ps.take (j + 1))) := by (have hh := Own13.app OWl (jc4 Vl.out hz) hfr growq (by rw [HTL.out]; exact ownq); rw [← HTK.out] at hh; exact hh)
    have growq : Hid (wl.grownBy wq (Value.slice ua um uc).ownBlock) := growq
    have hU : ∀ k, (Value.slice ua um uc).ownBlock = some k → w.heap.size + 3 ≤ k := fun k hk => (OWl.row.lt k hk).1
    have Bq : Hid (Below (w.heap.size + 3) wr wq) := (Bl.out.mono hz).grown growq.out (Nat.le_trans hz Bl.out.size) hU
    clear OWl rowl ownq growq hfr hU
    refine hK.out _ _ (Or.inr ⟨(Bq.out.cell (p := ⟨w.heap.size, 0, none⟩) hA1).trans c0, (Bq.out.cell (p := ⟨w.heap.size + 1 + 1, 0, none⟩) hA2).trans d0, (Bq.out.cell (p := ⟨g, off + j, none⟩) hA3).trans q1⟩) (fun hHl => ?_)
    replace hHl := hHl.resolve_left (by decide)
    clear hK K
    try simp only [Act.put, gD, gE, gF]
    refine ja7 (rs := [13]) (by kernel_rfl) (by simp) (AllReadyG.cons (o := ?ooca13) ?_ (fun K hK => ?_) AllReadyG.nil)
    rotate_left
    · simp only [gA, gB, gC]; rfl
    go_simp
    try go_wp2_with fail
    obtain ⟨e1, e2⟩ := ja4 ((Bq.out.block (w.heap.size + 1 + 1) (by omega)).trans HB2.out)
    refine hK.out _ _ (Or.inr ⟨(Bq.out.cell (p := ⟨w.heap.size, 0, none⟩) hA1).trans c0, (Bq.out.cell (p := ⟨w.heap.size + 1 + 1, 0, none⟩) hA2).trans d0, (Bq.out.cell (p := ⟨g, off + j, none⟩) hA3).trans q1⟩) (fun hHl => ?_)
    replace hHl := hHl.resolve_left (by decide)
    clear hK K
    try simp only [Act.put, gD, gE, gF]
    refine ja7 (rs := [14]) (by kernel_rfl) (by simp) (AllReadyG.cons (o := ?ooca14) ?_ (fun K hK => ?_) AllReadyG.nil)
    rotate_left
    · simp only [gA, gB, gC]; rfl
    go_simp
    try go_wp2_with fail
    refine hK.out _ _ (Or.inl rfl) (fun _ => ?_)
    clear hK K
    try simp only [Act.put, gD, gE, gF]
    refine jh2 (by kernel_rfl) ?_ _
    have HB5 : Hid (Below w.heap.size w (wq.setCell ⟨w.heap.size + 1 + 1, 0, none⟩ (.slice (some ⟨gq, 0, none⟩) (j + 1) cq))) := (hb.trans (Bq.out.mono (by omega))).setCell (by simp; omega) _
    have HO5 : Hid (Own13 (wq.setCell ⟨w.heap.size + 1 + 1, 0, none⟩ (.slice (some ⟨gq, 0, none⟩) (j + 1) cq)) (w.heap.size + 3) (.slice (some ⟨gq, 0, none⟩) (j + 1) cq) (us ++ [.slice (some ⟨gn, 0, none⟩) p.length cn]) (ps.take (j + 1))) := OWq.out.grown (jc3 _ _ _ _) (fun k hk => .inl (by have := Option.some.inj hk; omega))
    have HQ5 : Hid ((wq.setCell ⟨w.heap.size + 1 + 1, 0, none⟩ (.slice (some ⟨gq, 0, none⟩) (j + 1) cq)).heap[w.heap.size + 1 + 1]? = some (.cells #[.slice (some ⟨gq, 0, none⟩) (j + 1) cq] 26 (0, 0))) := jg1 ((Bq.out.block _ (by omega)).trans HB2.out) _
    have HR5 : Hid ((wq.setCell ⟨w.heap.size + 1 + 1, 0, none⟩ (.slice (some ⟨gq, 0, none⟩) (j + 1) cq)).heap[w.heap.size + 1]? = some (.cells #[.slice none 0 0] 26 (0, 0))) := (Below.heap_setCell _ _ _ _ (by simp)).trans ((Bq.out.block _ (by omega)).trans HB1.out)
    have HP5 : Hid ((wq.setCell ⟨w.heap.size + 1 + 1, 0, none⟩ (.slice (some ⟨gq, 0, none⟩) (j + 1) cq)).heap[w.heap.size]? = some (.cells #[.slice (some ⟨g, off, none⟩) ps.length vcap] 26 (0, 0))) := (Below.heap_setCell _ _ _ _ (by simp; omega)).trans ((Bq.out.block _ (by omega)).trans HB0.out)
    have HZ5 : Hid (w.heap.size + 3 ≤ (wq.setCell ⟨w.heap.size + 1 + 1, 0, none⟩ (.slice (some ⟨gq, 0, none⟩) (j + 1) cq)).heap.size) := by (show _ ≤ _; simp only [World.setCell, Array.size_setIfInBounds, Array.size_modify]; exact Nat.le_trans hz Bq.out.size)
    generalize wq.setCell ⟨w.heap.size + 1 + 1, 0, none⟩ (.slice (some ⟨gq, 0, none⟩) (j + 1) cq) = w5 at *
    go_wp2
    go_roundw
    case rel => exact ⟨j + 1, _, _, by omega, by go_num, HO5.out, HQ5.out, HR5.out, HP5.out, HB5.out, HZ5.out⟩
    case measure => simp [intOf]; omega
  · have hjj : j = ps.length := by omega
    subst hjj
    rw [List.take_length] at OW
    obtain ⟨d1, f1⟩ := ja4 B1
    have d2 := (ja4 (jg1 B1 (.slice ua um uc))).1
    have HF : Hid (Own13 (wr.setCell ⟨w.heap.size + 1, 0, none⟩ (.slice ua um uc)) w.heap.size (.slice ua um uc) us ps) := (OW.grown (jc3 _ _ _ _) (fun k hk => .inl (by have := Option.some.inj hk; omega))).mono (by omega)
    have HB : Hid (Below w.heap.size w (wr.setCell ⟨w.heap.size + 1, 0, none⟩ (.slice ua um uc))) := hb.setCell (by simp) _
    clear OW
    go_wp2
    refine bodyPost_ret (v := .agg #[.slice ua um uc]) (by simp [results, Tryz.results49, go_sem, d2]) rfl ?_
    exact ⟨_, us, rfl, HF.out, HB.out⟩
end Go.Proofs.YtldagpfeaabcdaaGreatDoor
namespace Go.Proofs.YtldagpfeaabcdaaGreatDoor
open Go.RowKit
set_option linter.unusedVariables false
set_option linter.unusedSimpArgs false
set_option maxHeartbeats 4000000
set_option maxRecDepth 20000
section
variable {P : Program}
theorem wp_append_any {Q : Exit → Act → World → Prop} {o : Oper} {a : Act} {K : Act → World → Prop} (w : World) (s x : Operand) (t : TypeId)
 (ho : o.op = .call { callee := .builtin .append, args := #[s, x], argTypes := #[t, t] })
 (base : Nat) (e : TypeId) (i : TypeInfo) (z : Value) (size bytes : Nat) (ht : P.underlying t = some (.slice e)) (hi : P.info? e = some i) (hz : i.zero = some z)
 (hsize : i.size = size) (hby : i.bytes = bytes) (hzs : z.cells.size = size) (hsz : 0 < size)
 (v : Value) (n : Nat) (xs : List Value) (hs : a.eval s = v) (hown : w.ownsRow base e size v n xs)
 (xo : Option Addr) (m c : Nat) (news : List Value) (hx : a.eval x = .slice xo m c) (hl : news.length = m * size) (hnews : 0 < m → ∃ ad, xo = some ad ∧ ∀ j u, news[j]? = some u → w.cell? (ad.add j) = some u) (h1 : ∀ u ∈ news, u.oneCell' = true)
 (h63 : n + m ≤ maxLen) (hbytes : (n + m) * bytes ≤ 140737488355328) (hbase : base ≤ w.heap.size)
 (h : ∀ v' w', w'.ownsRow base e size v' (n + m) (xs ++ news) → w.grownBy w' v.ownBlock → (∀ k, v'.ownBlock = some k → v.ownBlock = some k ∨ w.heap.size ≤ k) → K (a.put o.dst v') w') : Oper.wp P o a w K Q := by
 by_cases hm : 0 < m
 · obtain ⟨ad, rfl, hc⟩ := hnews hm
   refine wp_append_lies w s x t ho base e i z size bytes ht hi hz hsize hby hzs hsz v n xs hs hown ad m c news hx hl hc h1 hm h63 hbytes hbase _ rfl ?_
   intro g cap w' h2 h3 h4 h5
   refine h _ w' h2 h3 (fun k hk => ?_)
   have hk : g = k := Option.some.inj hk
   subst hk
   rcases h4 with h4 | h4
   · exact .inl h4
   · exact .inr (by omega)
 · have hm0 : m = 0 := by omega
   subst hm0
   have hn0 : news = [] := List.eq_nil_of_length_eq_zero (by omega)
   subst hn0
   have hr : (Builtin.append_ #[t, t] o.type #[v, .slice xo 0 c]).run P w = .ok v w := by
    have hsrc : Src P i.size t (.slice xo 0 c) 0 [] w := by
     cases xo with
     | none => exact Src.ofNil w ht c
     | some ad => exact Src.ofSlice w ht ad 0 c [] (by simp) (by simp) (by simp)
    rcases hown.2 with ⟨rfl, hn⟩ | ⟨g, cap, cur, rfl, _, _, hnc, _⟩
    · exact run_append_nothing w t t o.type e i ht hi none 0 0 (Nat.le_refl _) _ hsrc
    · exact run_append_nothing w t t o.type e i ht hi _ n cap hnc _ hsrc
   unfold Oper.wp
   simp only [execOp, ho, resolve, invoke, builtin, Sem.run_bind, Sem.run_pure, Result.andThen_ok, List.map_toArray, List.map_cons, List.map_nil, hs, hx, hr]
   exact h v w (by simpa using hown) (World.grownBy.refl _ _) (fun k hk => .inl hk)
theorem jd1 {ops : Array Oper} {Q : Exit → Act → World → Prop} {o : Oper} {a : Act} {K : Act → World → Prop} {E : Prop} (w : World) (hgd : o.guard = none) (s x : Operand) (t : TypeId)
 (ho : o.op = .call { callee := .builtin .append, args := #[s, x], argTypes := #[t, t] })
 (base : Nat) (e : TypeId) (i : TypeInfo) (z : Value) (size bytes : Nat) (ht : P.underlying t = some (.slice e)) (hi : P.info? e = some i) (hz : i.zero = some z)
 (hsize : i.size = size) (hby : i.bytes = bytes) (hzs : z.cells.size = size) (hsz : 0 < size)
 (v : Value) (n : Nat) (xs : List Value) (hs : a.eval s = v) (hown : w.ownsRow base e size v n xs)
 (xo : Option Addr) (m c : Nat) (news : List Value) (hx : a.eval x = .slice xo m c) (hl : news.length = m * size) (hnews : 0 < m → ∃ ad, xo = some ad ∧ ∀ j u, news[j]? = some u → w.cell? (ad.add j) = some u) (h1 : ∀ u ∈ news, u.oneCell' = true)
 (h63 : n + m ≤ maxLen) (hbytes : (n + m) * bytes ≤ 140737488355328) (hbase : base ≤ w.heap.size)
 (h : ∀ v' w', w'.ownsRow base e size v' (n + m) (xs ++ news) → w.grownBy w' v.ownBlock → (∀ k, v'.ownBlock = some k → v.ownBlock = some k ∨ w.heap.size ≤ k) → K (a.put o.dst v') w') :
 if Region.wanted o (yielded ops a.tmps) = true then Oper.wp P o a w K Q else E := by
 have hw : Region.wanted o (yielded ops a.tmps) = true := by simp [Region.wanted, hgd]
 rw [if_pos hw]
 exact wp_append_any w s x t ho base e i z size bytes ht hi hz hsize hby hzs hsz v n xs hs hown xo m c news hx hl hnews h1 h63 hbytes hbase h
end
structure Do13 (w : World) (base P G cap : Nat) (k pr a sk sx sy : Int) (us : List Value) (ps : List (List Stm)) (W : World) : Prop where
 edit : W.heap[w.heap.size]? = some (.cells #[.int .i64 k, .int .i64 pr, .int .i64 a, .int .i64 sk, .int .i64 sx, .int .i64 sy] 54 (0, 0))
 box : W.heap[P]? = some (.cells #[.slice (some ⟨G, 0, none⟩) ps.length cap] 26 (0, 0))
 own : Own13 W base (.slice (some ⟨G, 0, none⟩) ps.length cap) us ps
 below : Below base w W
 size : w.heap.size < W.heap.size
theorem Do13.drew {w : World} {base P G cap : Nat} {k pr a sk sx sy : Int} {us : List Value} {ps : List (List Stm)} {W : World} (h : Do13 w base P G cap k pr a sk sx sy us ps W) : Do13 w base P G cap k pr a sk sx sy us ps W.drew :=
 ⟨h.edit, h.box, h.own.kept (Below.drew (Below.refl _ _)), h.below.drew, h.size⟩
theorem Do13.cells {w : World} {base P G cap i : Nat} {k pr a sk sx sy : Int} {us : List Value} {ps : List (List Stm)} {W : World} {x : Value} (h : Do13 w base P G cap k pr a sk sx sy us ps W) (hx : us[i]? = some x) :
 W.cell? ⟨w.heap.size, 0, none⟩ = some (.int .i64 k) ∧ W.cell? ⟨w.heap.size, 1, none⟩ = some (.int .i64 pr) ∧ W.cell? ⟨w.heap.size, 2, none⟩ = some (.int .i64 a) ∧ W.cell? ⟨w.heap.size, 3, none⟩ = some (.int .i64 sk) ∧ W.cell? ⟨w.heap.size, 4, none⟩ = some (.int .i64 sx) ∧ W.cell? ⟨w.heap.size, 5, none⟩ = some (.int .i64 sy) ∧
  W.cell? ⟨P, 0, none⟩ = some (.slice (some ⟨G, 0, none⟩) ps.length cap) ∧ W.cell? ⟨G, i, none⟩ = some x ∧ W.frozen? ⟨G, i, none⟩ = false := by
 obtain ⟨h0, h1, h2⟩ := jk2 h.edit
 obtain ⟨h3, h4, h5⟩ := jj3 h.edit
 have hil : i < us.length := (List.getElem?_eq_some_iff.1 hx).1
 refine ⟨h0, h1, h2, h3, h4, h5, (ja4 h.box).1, ?_, h.own.row.frozenAt i⟩
 rw [h.own.row.cellAt i (by have := h.own.len; omega)]
 exact hx
theorem Own13.upd {W w' : World} {base i g m c : Nat} {v : Value} {us : List Value} {ps : List (List Stm)} {L : List Stm} (h : Own13 W base v us ps) (hi : i < ps.length) (hui : us[i]? = some (.slice (some ⟨g, 0, none⟩) m c)) (hg : W.grownBy w' (some g))
 (ho : w'.ownsRow base 52 3 (.slice (some ⟨g, 0, none⟩) m c) L.length (ja3 L)) : Own13 w' base v us (ps.set i L) := by
 obtain ⟨p, hp⟩ : ∃ p, ps[i]? = some p := ⟨ps[i], by simp [hi]⟩
 have hoi := h.each i _ p hui hp
 refine ⟨by rw [List.length_set]; exact jd5 h.row hg (fun k hk e => jx3 hoi h.row (by decide) k (by rw [← e]; rfl) hk), fun j u r h1 h2 => ?_, h.ap⟩
 by_cases e : i = j
 · subst e
   rw [hui] at h1
   rw [List.getElem?_set_self hi] at h2
   cases h1; cases h2
   exact ho
 · rw [List.getElem?_set_ne e] at h2
   have h3 := h.each j u r h1 h2
   exact jd5 h3 hg (fun k hk e' => h.ap j i u _ k (fun e2 => e e2.symm) h1 hui hk (by rw [← e']; rfl))
theorem Do13.upd {w : World} {base P G cap i g m c : Nat} {k pr a sk sx sy : Int} {us : List Value} {ps : List (List Stm)} {W w' : World} {L : List Stm} (h : Do13 w base P G cap k pr a sk sx sy us ps W) (hi : i < ps.length) (hui : us[i]? = some (.slice (some ⟨g, 0, none⟩) m c)) (hbase : base ≤ w.heap.size) (hgb : base ≤ g) (hg : W.grownBy w' (some g))
 (ho : w'.ownsRow base 52 3 (.slice (some ⟨g, 0, none⟩) m c) L.length (ja3 L)) : Do13 w base P G cap k pr a sk sx sy us (ps.set i L) w' := by
 have hl : (ps.set i L).length = ps.length := by simp
 obtain ⟨p, hp⟩ : ∃ p, ps[i]? = some p := ⟨ps[i], by simp [hi]⟩
 have hoi := h.own.each i _ p hui hp
 have ne : ∀ {b : Nat} {C : Array Value} {t : TypeId}, W.heap[b]? = some (.cells C t (0, 0)) → t ≠ 52 → b ≠ g := by
  intro b C t hb ht e
  subst e
  rcases hoi.2 with ⟨e, _⟩ | ⟨g', cap', cur, e, _, h4, _⟩
  · cases e
  · cases e
    rw [hb] at h4
    injection h4 with h4
    injection h4 with _ h4
    exact ht h4
 have h1 := ne h.edit (by decide)
 have h2 := ne h.box (by decide)
 refine ⟨(hg.block _ (Array.getElem?_eq_some_iff.1 h.edit).1 (fun e => h1 (Option.some.inj e))).trans h.edit, ?_, ?_, h.below.grown hg (Nat.le_trans hbase (Nat.le_of_lt h.size)) (fun q hq => by have := Option.some.inj hq; omega), Nat.lt_of_lt_of_le h.size hg.size⟩
 · rw [hl]; exact (hg.block _ (Array.getElem?_eq_some_iff.1 h.box).1 (fun e => h2 (Option.some.inj e))).trans h.box
 · rw [hl]; exact h.own.upd hi hui hg ho
end Go.Proofs.YtldagpfeaabcdaaGreatDoor
