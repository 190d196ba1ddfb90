/-
 spec.l14Closure, spec.Closure.
-/
import Derived.Test.YtldagpfeaabcdaaGreatDoorG30CloI14
import Derived.BigRegion
namespace Go.Proofs.YtldagpfeaabcdaaGreatDoor
open Go.RowKit
set_option linter.unusedVariables false
set_option linter.unusedSimpArgs false
set_option maxHeartbeats 8000000
set_option maxRecDepth 20000
theorem later14 {G : Prop} {F R : Nat → Value → Nat → Nat → World → Prop} (h : (∀ X u g c y, F X u g c y → R X u g c y) → G) (k : ∀ X u g c y, F X u g c y → R X u g c y) : G := h k
def Stop14 (p : Prop) : Prop := p
theorem qc1 {p : Prop} (h : Stop14 p) : p := h
theorem kind14 {w : World} {base n : Nat} {z : Value} {xs : List Value} {X gn cn : Nat} (hX : w.heap[X]? = some (.cells #[z] 63 (0, 0))) (ho : w.ownsRow base 52 3 (.slice (some ⟨gn, 0, none⟩) n cn) n xs) (hne : (63 : Nat) ≠ 52) (e : X = gn) : False := by
 subst e
 rcases ho.2 with ⟨h, _⟩ | ⟨g', cap', cur, h, _, h4, _⟩
 · cases h
 · cases h
   rw [hX] at h4
   injection h4 with h4
   injection h4 with _ h4
   exact hne h4
theorem l14Closure (ps : List (List Stm)) (i : Int) (v : Value) (w : World) (hok : hasB ps i = true) (hv : jb5 w v ps) :
 Calls Tryz.prog 34 #[.agg #[v], .int .i64 i] w fun e w' => ∃ u us, e = .returned (.agg #[u]) ∧ Own13 w' w.heap.size u us (jf7 ps (jg4 ps i)) ∧ Below w.heap.size w w' := by
 obtain ⟨i0, hi0, hz0, hz1, hz2⟩ := info_parts js1
 obtain ⟨j0, hj0, hy0, hy1, hy2⟩ := info_parts qa3
 obtain ⟨ao, vcap, rfl, hcv⟩ := id hv
 obtain ⟨W0, hW0⟩ : ∃ W0, (w.alloc (.cells #[.slice ao ps.length vcap] 26)).alloc (.cells #[.slice none 0 0] 26) = W0 := ⟨_, rfl⟩
 have b0 : Below w.heap.size w W0 := by rw [← hW0]; go_grown
 have s0 : W0.heap.size = w.heap.size + 2 := by rw [← hW0]; simp
 have H0 : W0.heap[w.heap.size]? = some (.cells #[.slice ao ps.length vcap] 26 (0, 0)) := by rw [← hW0, ja2 (by simp)]; exact heap_alloc_new w _
 have H1 : W0.heap[w.heap.size + 1]? = some (.cells #[.slice none 0 0] 26 (0, 0)) := by
  rw [← hW0]
  have := heap_alloc_new (w.alloc (.cells #[.slice ao ps.length vcap] 26)) (.cells #[.slice none 0 0] 26)
  simpa using this
 have hnu := l14Numbers ps i _ W0 hok (ja0 hv b0)
 obtain ⟨hOr, _⟩ := jn0 hok
 obtain ⟨R, hR⟩ : ∃ R, jg4 ps i = R := ⟨_, rfl⟩
 rw [hR] at hnu hOr ⊢
 have hok1 : ja5 ps = true := by unfold hasB at hok; simp only [Bool.and_eq_true] at hok; exact hok.1
 obtain ⟨h4, h1, hpr⟩ := jc1 hok1
 have hRl := hOr.o.len
 have HCL := jr9 ps R
 obtain ⟨C, hC⟩ : ∃ C, jf7 ps R = C := ⟨_, rfl⟩
 have HC : Hid (∀ k (h : k < R.length), ∃ h2 : R[k].toNat < ps.length, C[k]? = some (ps[R[k].toNat].map (je5 R))) := fun k h => hC ▸ clo14_get h hOr.o
 rw [hC] at HCL ⊢
 have HCL : Hid _ := HCL
 have HW0 : Hid _ := hW0
 have HHV : Hid _ := hcv
 have c0 := (ja4 H0).1
 clear hW0 hR hok hok1 hcv hC
 go_enter Tryz.func34, Tryz.ntmps34
 go_wp2_with fail
 rw [HW0.out]
 clear HW0
 go_wp2_with fail
 go_at_call 60
 refine hnu.mono ?_
 rintro e w1 ⟨go, co, rfl, own1, b1⟩
 have s1 := b1.size
 have hgo := own1.lt go rfl
 have H10 := (b1.block w.heap.size (by omega)).trans H0
 have H11 := (b1.block (w.heap.size + 1) (by omega)).trans H1
 have L1 : Below w.heap.size w w1 := jc8 b0 b1 (by omega)
 clear hnu c0 H0 H1 b0 b1 hv
 obtain ⟨n, hn⟩ : ∃ n, R.length = n := ⟨_, rfl⟩
 have HN : Hid _ := hn
 rw [hn] at own1 hRl ⊢
 clear hn
 obtain ⟨w2, hw2⟩ : ∃ w2, w1.alloc (.cells #[.slice none 0 0] 26) = w2 := ⟨_, rfl⟩
 have b2 : Below w1.heap.size w1 w2 := by rw [← hw2]; go_grown
 have s2 : w2.heap.size = w1.heap.size + 1 := by rw [← hw2]; simp
 have HO2 : w2.heap[w1.heap.size]? = some (.cells #[.slice none 0 0] 26 (0, 0)) := by rw [← hw2]; exact heap_alloc_new w1 _
 have HW2 : Hid _ := hw2
 have own2 := jc4 (jc0 own1 b2) (Nat.zero_le _)
 have H20 := (b2.block w.heap.size (by omega)).trans H10
 have H21 := (b2.block (w.heap.size + 1) (by omega)).trans H11
 have L2 : Below w.heap.size w w2 := jc8 L1 b2 (by omega)
 clear hw2 own1 b2 L1 H10 H11
 go_wp2_with fail
 rw [HW2.out]
 clear HW2
 obtain ⟨O, hO⟩ : ∃ O, w1.heap.size = O := ⟨_, rfl⟩
 rw [hO] at s2 HO2 hgo s1 ⊢
 obtain ⟨hgo1, hgo2⟩ := hgo
 have hgO : go < O := hgo2
 have hwO : w.heap.size + 2 ≤ O := by omega
 have hgw : w.heap.size + 2 ≤ go := by omega
 have s2' : O + 1 ≤ w2.heap.size := by omega
 clear hO hgo1 hgo2 s0 s1 s2
 go_loopw [7] (fun q wr => ∃ (k : Nat) (u : Value) (us : List Value), k ≤ n ∧ q = .int .i64 k ∧ Own13 wr (O + 1) u us (C.take k) ∧ wr.heap[O]? = some (.cells #[u] 26 (0, 0)) ∧ wr.heap[w.heap.size + 1]? = some (.cells #[.slice none 0 0] 26 (0, 0)) ∧ wr.heap[w.heap.size]? = some (.cells #[.slice ao ps.length vcap] 26 (0, 0)) ∧
  wr.ownsRow 0 2 1 (.slice (some ⟨go, 0, none⟩) n co) n (ints R) ∧ Below w.heap.size w wr ∧ O + 1 ≤ wr.heap.size) (fun q _ => n - (intOf q).toNat)
 case atStart => exact ⟨0, .slice none 0 0, [], Nat.zero_le _, rfl, jn5 _ _, HO2, H21, H20, own2, L2, s2'⟩
 case round =>
  obtain ⟨k, u, us, hk, rfl, OW, BO, B1, B0, hord, hb, hsz⟩ := hrel
  clear own2 L2 H20 H21 HO2 s2'
  by_cases hlt : k < n
  · have hlt' : (k : Int) < (n : Int) := by omega
    have hkR : k < R.length := by rw [HN.out]; exact hlt
    obtain ⟨htl, hcg⟩ := HC.out k hkR
    obtain ⟨hx0, hx1⟩ := hOr.o.inn R[k] (List.getElem_mem hkR)
    have hcl := hOr.cl R[k] (List.getElem_mem hkR)
    obtain ⟨_, hge⟩ := jv5 hx0 hx1
    rw [hge] at hcl
    have hpo := hpr _ (List.getElem_mem htl)
    have hpl := jj5 hpo.1
    have hp1 := (jh0 hpo.1).1
    obtain ⟨gv, off, x, rfl, q0, r0⟩ := HHV.out (R[k].toNat) ps[R[k].toNat] (by simp)
    have q1 := (hb.cell (World.block_lt_of_cell? w _ q0)).trans q0
    have r1 := jd0 r0 hb
    have hgvw : gv < w.heap.size := World.block_lt_of_cell? w _ q0
    have e0 : wr.cell? ⟨go, k, none⟩ = some (.int .i64 R[k]) := by
     rw [hord.cellAt k (by omega)]
     simp [ints]
    obtain ⟨c0, _⟩ := ja4 B0
    have hxt : ((R[k].toNat : Nat) : Int) = R[k] := by omega
    obtain ⟨t, ht⟩ : ∃ t : Nat, R[k].toNat = t := ⟨_, rfl⟩
    have hxl' : (t : Int) < (ps.length : Int) := by omega
    have hCk : C.take (k + 1) = C.take k ++ [ps[R[k].toNat].map (je5 R)] := by
     have hkC : k < C.length := by rw [HCL.out, HN.out]; exact hlt
     rw [List.take_succ_eq_append_getElem hkC]
     rw [List.getElem?_eq_getElem hkC] at hcg
     rw [Option.some.inj hcg]
    generalize ps[R[k].toNat] = p at *
    rw [ht] at hxt q1
    rw [← hxt] at e0
    obtain ⟨gx, ox, cx, rfl⟩ := qb5 (by omega) r1
    have hp0 : 0 < p.length := hp1
    have HCK : Hid _ := hCk
    have HOW : Hid _ := OW
    have HBO : Hid _ := BO
    have HOR : Hid _ := hord
    have HB0 : Hid _ := B0
    have HB1 : Hid _ := B1
    have HR1 : Hid _ := r1
    have HR0 : Hid _ := r0
    have hkl : (C.take k).length = k := by rw [List.length_take, HCL.out, HN.out]; omega
    have HKL : Hid _ := hkl
    have hPl : w.heap.size < wr.heap.size := by omega
    have hOl : go < wr.heap.size := by omega
    have hgl : gv < wr.heap.size := by have := hb.size; omega
    have hgxw : gx < w.heap.size := by
     obtain ⟨_, _, e, hcx⟩ := r0
     obtain ⟨g', off', e2, a0, _⟩ := hcx 0 p[0] (by simp)
     injection e with e3 _ _
     rw [e2] at e3
     simp only [Option.some.injEq, Addr.mk.injEq, and_true] at e3
     obtain ⟨rfl, rfl⟩ := e3
     exact World.block_lt_of_cell? w _ a0
    have hn4 : n ≤ 4 := by omega
    clear hge hx0 hx1 hxt ht hpo q0 htl hcg B0 B1 BO OW hord hCk r0 r1 hkl hp1 h4 h1
    go_wp2_with fail
    refine later14 (F := fun X (x21 : Value) gn cn wf => wf.heap[X]? = some (.cells #[.slice (some ⟨gn, 0, none⟩) p.length cn] 63 (0, 0)) ∧ wr.heap.size ≤ X ∧ wr.heap.size ≤ gn ∧ Below wr.heap.size wr wf ∧ wf.ownsRow wr.heap.size 52 3 (.slice (some ⟨gn, 0, none⟩) p.length cn) p.length (ja3 p)) (R := ?Rcs) (fun hk => ?tcs) ?restcs
    case tcs =>
     refine wp_region_held_drew (S := fun w' => w'.cell? ⟨w.heap.size, 0, none⟩ = some (.slice (some ⟨gv, off, none⟩) ps.length vcap) ∧ w'.cell? ⟨go, k, none⟩ = some (.int .i64 (t : Int)) ∧ w'.cell? ⟨gv, off + t, none⟩ = some (.slice (some ⟨gx, ox, none⟩) p.length cx)) (by kernel_rfl) ⟨c0, e0, q1⟩ (fun hHl => ?_)
     refine wpAnyH_take (i := 1) (oi := ?oica1) (v := .pointer (some ⟨w.heap.size, 0, none⟩)) ?_ (by kernel_rfl) (by kernel_rfl) (by kernel_rfl) ?_ ?_ hHl ?_
     rotate_left
     · simp only [gA, gB, gC]; rfl
     · exact fun _ _ _ h => h
     · exact Or.inl ⟨by kernel_rfl, fun w hSw => by go_simp⟩
     try simp only [Act.put, gD, gE, gF]
     refine wpAnyH_take (i := 2) (oi := ?oica2) (v := .slice (some ⟨gv, off, none⟩) ps.length vcap) ?_ (by kernel_rfl) (by kernel_rfl) (by kernel_rfl) ?_ ?_ hHl ?_
     rotate_left
     · simp only [gA, gB, gC]; rfl
     · exact fun _ _ _ h => h
     · exact Or.inl ⟨by kernel_rfl, fun w hSw => by obtain ⟨s1, s2, s3⟩ := hSw; go_simp⟩
     try simp only [Act.put, gD, gE, gF]
     refine wpAnyH_take (i := 3) (oi := ?oica3) (v := .slice (some ⟨go, 0, none⟩) n co) ?_ (by kernel_rfl) (by kernel_rfl) (by kernel_rfl) ?_ ?_ hHl ?_
     rotate_left
     · simp only [gA, gB, gC]; rfl
     · exact fun _ _ _ h => h
     · exact Or.inl ⟨by kernel_rfl, fun w hSw => by go_simp⟩
     try simp only [Act.put, gD, gE, gF]
     refine wpAnyH_take (i := 4) (oi := ?oica4) (v := .int .i64 (k : Int)) ?_ (by kernel_rfl) (by kernel_rfl) (by kernel_rfl) ?_ ?_ hHl ?_
     rotate_left
     · simp only [gA, gB, gC]; rfl
     · exact fun _ _ _ h => h
     · exact Or.inl ⟨by kernel_rfl, fun w hSw => by go_simp⟩
     try simp only [Act.put, gD, gE, gF]
     refine wpAnyH_take (i := 5) (oi := ?oica5) (v := .pointer (some ⟨go, k, none⟩)) ?_ (by kernel_rfl) (by kernel_rfl) (by kernel_rfl) ?_ ?_ hHl ?_
     rotate_left
     · simp only [gA, gB, gC]; rfl
     · exact fun _ _ _ h => h
     · exact Or.inl ⟨by kernel_rfl, fun w hSw => by go_simp⟩
     try simp only [Act.put, gD, gE, gF]
     refine wpAnyH_take (i := 6) (oi := ?oica6) (v := .int .i64 (t : Int)) ?_ (by kernel_rfl) (by kernel_rfl) (by kernel_rfl) ?_ ?_ hHl ?_
     rotate_left
     · simp only [gA, gB, gC]; rfl
     · exact fun _ _ _ h => h
     · exact Or.inl ⟨by kernel_rfl, fun w hSw => by obtain ⟨s1, s2, s3⟩ := hSw; go_simp⟩
     try simp only [Act.put, gD, gE, gF]
     refine wpAnyH_take (i := 7) (oi := ?oica7) (v := .pointer (some ⟨gv, off + t, none⟩)) ?_ (by kernel_rfl) (by kernel_rfl) (by kernel_rfl) ?_ ?_ hHl ?_
     rotate_left
     · simp only [gA, gB, gC]; rfl
     · exact fun _ _ _ h => h
     · exact Or.inl ⟨by kernel_rfl, fun w hSw => by go_simp⟩
     try simp only [Act.put, gD, gE, gF]
     refine wpAnyH_take (i := 8) (oi := ?oica8) (v := .pointer (some ⟨gv, off + t, none⟩)) ?_ (by kernel_rfl) (by kernel_rfl) (by kernel_rfl) ?_ ?_ hHl ?_
     rotate_left
     · simp only [gA, gB, gC]; rfl
     · exact fun _ _ _ h => h
     · exact Or.inl ⟨by kernel_rfl, fun w hSw => by go_simp⟩
     try simp only [Act.put, gD, gE, gF]
     refine wpAnyH_take (i := 9) (oi := ?oica9) (v := .slice (some ⟨gx, ox, none⟩) p.length cx) ?_ (by kernel_rfl) (by kernel_rfl) (by kernel_rfl) ?_ ?_ hHl ?_
     rotate_left
     · simp only [gA, gB, gC]; rfl
     · exact fun _ _ _ h => h
     · exact Or.inl ⟨by kernel_rfl, fun w hSw => by obtain ⟨s1, s2, s3⟩ := hSw; go_simp⟩
     try simp only [Act.put, gD, gE, gF]
     refine wpAnyH_ready (rs := [0, 12]) (by kernel_rfl) (by simp) ?_
     refine (AllReadyH.cons (o := ?ooca0) ?hoca0 (fun K hK => ?hkca0) (AllReadyH.cons (o := ?ooca12) ?hoca12 (fun K hK => ?hkca12) AllReadyH.nil))
     case hoca0 =>
      simp only [gA, gB, gC]
      rfl
     case hoca12 =>
      simp only [gA, gB, gC]
      rfl
     case hkca0 =>
      go_simp
      try go_wp2_with fail
      have bz : Below wr.heap.size wr (wr.alloc (.cells #[] 52)).drew := by go_grown
      have Ba : Hid (Below wr.heap.size wr (wr.alloc (.cells #[] 52)).drew) := bz
      have Va : Hid ((wr.alloc (.cells #[] 52)).drew.ownsRow wr.heap.size 52 3 (.slice (some ⟨wr.heap.size, 0, none⟩) 0 0) 0 []) := jc4 (World.ownsRow_made wr #[] 0 (Nat.le_refl _) (by unfold maxLen; omega) rfl) (Nat.le_refl _)
      have qa : wr.heap.size < (wr.alloc (.cells #[] 52)).drew.heap.size := by simp
      have za := Ba.out.size
      generalize (wr.alloc (.cells #[] 52)).drew = wa at *
      clear bz
      refine hK.out _ _ ⟨(Ba.out.cell hPl).trans c0, (Ba.out.cell hOl).trans e0, (Ba.out.cell hgl).trans q1⟩ (fun hHl => ?_)
      clear hK K
      try simp only [Act.put, gD, gE, gF]
      refine wpAnyH_ready (rs := [10, 12]) (by kernel_rfl) (by simp) ?_
      refine (AllReadyH.cons (o := ?oocaa10) ?hocaa10 (fun K hK => ?hkcaa10) (AllReadyH.cons (o := ?oocaa12) ?hocaa12 (fun K hK => ?hkcaa12) AllReadyH.nil))
      case hocaa10 =>
       simp only [gA, gB, gC]
       rfl
      case hocaa12 =>
       simp only [gA, gB, gC]
       rfl
      case hkcaa10 =>
       obtain ⟨_, hcs⟩ := jo2 hp0 (jd0 HR1.out Ba.out)
       refine step_append_lies _ rfl (.tmp 21) (.tmp 30) 61 rfl wr.heap.size 52 i0 (.agg #[.int .i64 0, .int .i64 0, .int .i64 0]) 3 24 Tryz.underlying61 hi0 hz0 hz1 hz2 rfl (by decide) (.slice (some ⟨wr.heap.size, 0, none⟩) 0 0) 0 [] rfl Va.out ⟨gx, ox, none⟩ p.length cx (ja3 p) rfl (je0 p) hcs (je4 p) hp0 (by unfold maxLen; omega) (by omega) Ba.out.size _ rfl ?_
       intro gn cn w9 own9 grow9 _ _
       clear hcs
       have V9 : Hid (w9.ownsRow wr.heap.size 52 3 (.slice (some ⟨gn, 0, none⟩) p.length cn) p.length (ja3 p)) := by (have hh := own9; simp only [Nat.zero_add, List.nil_append] at hh; exact hh)
       have B9 : Hid (Below wr.heap.size wr w9) := Ba.out.grown grow9 Ba.out.size (fun k hk => (World.ownsRow.lt Va.out k hk).1)
       have z9 := B9.out.size
       clear own9 grow9
       simp only [Nat.zero_add]
       refine hK.out _ _ ⟨(B9.out.cell hPl).trans c0, (B9.out.cell hOl).trans e0, (B9.out.cell hgl).trans q1⟩ (fun hHl => ?_)
       clear hK K
       try simp only [Act.put, gD, gE, gF]
       refine wpAnyH_take (i := 11) (oi := ?oicaaa11) (v := .agg #[.slice (some ⟨gn, 0, none⟩) p.length cn]) ?_ (by kernel_rfl) (by kernel_rfl) (by kernel_rfl) ?_ ?_ hHl ?_
       rotate_left
       · simp only [gA, gB, gC]; rfl
       · exact fun _ _ _ h => h
       · exact Or.inl ⟨by kernel_rfl, fun w hSw => by go_simp⟩
       try simp only [Act.put, gD, gE, gF]
       refine wpAnyH_ready (rs := [12]) (by kernel_rfl) (by simp) (AllReadyH.cons (o := ?oocaaa12) ?_ (fun K hK => ?_) AllReadyH.nil)
       rotate_left
       · simp only [gA, gB, gC]; rfl
       go_simp
       try go_wp2_with fail
       have bz : Below w9.heap.size w9 (w9.alloc (.cells #[.slice none 0 0] 63)) := by go_grown
       have Bb : Hid (Below wr.heap.size wr (w9.alloc (.cells #[.slice none 0 0] 63))) := jc8 B9.out bz B9.out.size
       have Xb : Hid ((w9.alloc (.cells #[.slice none 0 0] 63)).heap[w9.heap.size]? = some (.cells #[.slice none 0 0] 63 (0, 0))) := heap_alloc_new w9 (.cells #[.slice none 0 0] 63)
       have qb : w9.heap.size < (w9.alloc (.cells #[.slice none 0 0] 63)).heap.size := by simp
       have Vb : Hid ((w9.alloc (.cells #[.slice none 0 0] 63)).ownsRow wr.heap.size 52 3 (.slice (some ⟨gn, 0, none⟩) p.length cn) p.length (ja3 p)) := jc0 V9.out bz
       have zb := Bb.out.size
       generalize (w9.alloc (.cells #[.slice none 0 0] 63)) = wb at *
       clear bz
       refine hK.out _ _ ⟨(Bb.out.cell hPl).trans c0, (Bb.out.cell hOl).trans e0, (Bb.out.cell hgl).trans q1⟩ (fun hHl => ?_)
       clear hK K
       try simp only [Act.put, gD, gE, gF]
       refine wpAnyH_ready (rs := [13]) (by kernel_rfl) (by simp) (AllReadyH.cons (o := ?oocaaa13) ?_ (fun K hK => ?_) AllReadyH.nil)
       rotate_left
       · simp only [gA, gB, gC]; rfl
       obtain ⟨o1, o2⟩ := ja4 Xb.out
       go_simp
       try go_wp2_with fail
       have Bs : Hid (Below wr.heap.size wr (wb.setCell ⟨w9.heap.size, 0, none⟩ (.slice (some ⟨gn, 0, none⟩) p.length cn))) := Bb.out.setCell (by simp <;> omega) _
       refine hK.out _ _ ⟨(Bs.out.cell hPl).trans c0, (Bs.out.cell hOl).trans e0, (Bs.out.cell hgl).trans q1⟩ (fun hHl => ?_)
       clear hK K
       try simp only [Act.put, gD, gE, gF]
       refine wpAnyH_done (by kernel_rfl) ?_ _
       have hgX : w9.heap.size ≠ gn := fun e => kind14 Xb.out Vb.out (by decide) e
       have l1 : Hid ((wb.setCell ⟨w9.heap.size, 0, none⟩ (.slice (some ⟨gn, 0, none⟩) p.length cn)).heap[w9.heap.size]? = some (.cells #[.slice (some ⟨gn, 0, none⟩) p.length cn] 63 (0, 0))) := jg1 Xb.out _
       have l2 : Hid (wr.heap.size ≤ w9.heap.size) := (by show _ ≤ _; omega)
       have l3 := (World.ownsRow.lt Vb.out gn rfl).1
       have l4 : Hid ((wb.setCell ⟨w9.heap.size, 0, none⟩ (.slice (some ⟨gn, 0, none⟩) p.length cn)).ownsRow wr.heap.size 52 3 (.slice (some ⟨gn, 0, none⟩) p.length cn) p.length (ja3 p)) := ownsRow_setCell_other Vb.out (fun e => hgX (Option.some.inj e).symm) _
       have l5 : Hid _ := Bs.out
       clear hHl o1 o2 Bs hgX Xb Vb Bb
       generalize (wb.setCell ⟨w9.heap.size, 0, none⟩ (.slice (some ⟨gn, 0, none⟩) p.length cn)) = wf at *
       generalize w9.heap.size = Xn at *
       generalize Value.slice (some ⟨wr.heap.size, 0, none⟩) 0 0 = x21 at *
       exact hk Xn x21 gn cn wf ⟨l1.out, l2.out, l3, l5.out, l4.out⟩
      case hkcaa12 =>
       go_simp
       try go_wp2_with fail
       have bz : Below wa.heap.size wa (wa.alloc (.cells #[.slice none 0 0] 63)) := by go_grown
       have Bb : Hid (Below wr.heap.size wr (wa.alloc (.cells #[.slice none 0 0] 63))) := jc8 Ba.out bz Ba.out.size
       have Xb : Hid ((wa.alloc (.cells #[.slice none 0 0] 63)).heap[wa.heap.size]? = some (.cells #[.slice none 0 0] 63 (0, 0))) := heap_alloc_new wa (.cells #[.slice none 0 0] 63)
       have qb : wa.heap.size < (wa.alloc (.cells #[.slice none 0 0] 63)).heap.size := by simp
       have Vb : Hid ((wa.alloc (.cells #[.slice none 0 0] 63)).ownsRow wr.heap.size 52 3 (.slice (some ⟨wr.heap.size, 0, none⟩) 0 0) 0 ([])) := jc0 Va.out bz
       have zb := Bb.out.size
       generalize (wa.alloc (.cells #[.slice none 0 0] 63)) = wb at *
       clear bz
       refine hK.out _ _ ⟨(Bb.out.cell hPl).trans c0, (Bb.out.cell hOl).trans e0, (Bb.out.cell hgl).trans q1⟩ (fun hHl => ?_)
       clear hK K
       try simp only [Act.put, gD, gE, gF]
       refine wpAnyH_ready (rs := [10]) (by kernel_rfl) (by simp) (AllReadyH.cons (o := ?oocaab10) ?_ (fun K hK => ?_) AllReadyH.nil)
       rotate_left
       · simp only [gA, gB, gC]; rfl
       obtain ⟨_, hcs⟩ := jo2 hp0 (jd0 HR1.out Bb.out)
       refine step_append_lies _ rfl (.tmp 21) (.tmp 30) 61 rfl wr.heap.size 52 i0 (.agg #[.int .i64 0, .int .i64 0, .int .i64 0]) 3 24 Tryz.underlying61 hi0 hz0 hz1 hz2 rfl (by decide) (.slice (some ⟨wr.heap.size, 0, none⟩) 0 0) 0 [] rfl Vb.out ⟨gx, ox, none⟩ p.length cx (ja3 p) rfl (je0 p) hcs (je4 p) hp0 (by unfold maxLen; omega) (by omega) Bb.out.size _ rfl ?_
       intro gn cn w9 own9 grow9 _ _
       clear hcs
       have V9 : Hid (w9.ownsRow wr.heap.size 52 3 (.slice (some ⟨gn, 0, none⟩) p.length cn) p.length (ja3 p)) := by (have hh := own9; simp only [Nat.zero_add, List.nil_append] at hh; exact hh)
       have B9 : Hid (Below wr.heap.size wr w9) := Bb.out.grown grow9 Bb.out.size (fun k hk => (World.ownsRow.lt Vb.out k hk).1)
       have X9 : Hid (w9.heap[wa.heap.size]? = some (.cells #[.slice none 0 0] 63 (0, 0))) := (grow9.block _ (by omega) (fun e => absurd (Option.some.inj (show some (wa.heap.size) = some (wr.heap.size) from e)) (by omega))).trans Xb.out
       have z9 := B9.out.size
       clear own9 grow9
       simp only [Nat.zero_add]
       refine hK.out _ _ ⟨(B9.out.cell hPl).trans c0, (B9.out.cell hOl).trans e0, (B9.out.cell hgl).trans q1⟩ (fun hHl => ?_)
       clear hK K
       try simp only [Act.put, gD, gE, gF]
       refine wpAnyH_take (i := 11) (oi := ?oicaab11) (v := .agg #[.slice (some ⟨gn, 0, none⟩) p.length cn]) ?_ (by kernel_rfl) (by kernel_rfl) (by kernel_rfl) ?_ ?_ hHl ?_
       rotate_left
       · simp only [gA, gB, gC]; rfl
       · exact fun _ _ _ h => h
       · exact Or.inl ⟨by kernel_rfl, fun w hSw => by go_simp⟩
       try simp only [Act.put, gD, gE, gF]
       refine wpAnyH_ready (rs := [13]) (by kernel_rfl) (by simp) (AllReadyH.cons (o := ?oocaab13) ?_ (fun K hK => ?_) AllReadyH.nil)
       rotate_left
       · simp only [gA, gB, gC]; rfl
       obtain ⟨o1, o2⟩ := ja4 X9.out
       go_simp
       try go_wp2_with fail
       have Bs : Hid (Below wr.heap.size wr (w9.setCell ⟨wa.heap.size, 0, none⟩ (.slice (some ⟨gn, 0, none⟩) p.length cn))) := B9.out.setCell (by simp <;> omega) _
       refine hK.out _ _ ⟨(Bs.out.cell hPl).trans c0, (Bs.out.cell hOl).trans e0, (Bs.out.cell hgl).trans q1⟩ (fun hHl => ?_)
       clear hK K
       try simp only [Act.put, gD, gE, gF]
       refine wpAnyH_done (by kernel_rfl) ?_ _
       have hgX : wa.heap.size ≠ gn := fun e => kind14 X9.out V9.out (by decide) e
       exact hk wa.heap.size (.slice (some ⟨wr.heap.size, 0, none⟩) 0 0) gn cn _ ⟨jg1 X9.out _, (by omega), (World.ownsRow.lt V9.out gn rfl).1, Bs.out, ownsRow_setCell_other V9.out (fun e => hgX (Option.some.inj e).symm) _⟩
     case hkca12 =>
      go_simp
      try go_wp2_with fail
      have bz : Below wr.heap.size wr (wr.alloc (.cells #[.slice none 0 0] 63)).drew := by go_grown
      have Ba : Hid (Below wr.heap.size wr (wr.alloc (.cells #[.slice none 0 0] 63)).drew) := bz
      have Xa : Hid ((wr.alloc (.cells #[.slice none 0 0] 63)).drew.heap[wr.heap.size]? = some (.cells #[.slice none 0 0] 63 (0, 0))) := heap_alloc_new wr (.cells #[.slice none 0 0] 63)
      have qa : wr.heap.size < (wr.alloc (.cells #[.slice none 0 0] 63)).drew.heap.size := by simp
      have za := Ba.out.size
      generalize (wr.alloc (.cells #[.slice none 0 0] 63)).drew = wa at *
      clear bz
      refine hK.out _ _ ⟨(Ba.out.cell hPl).trans c0, (Ba.out.cell hOl).trans e0, (Ba.out.cell hgl).trans q1⟩ (fun hHl => ?_)
      clear hK K
      try simp only [Act.put, gD, gE, gF]
      refine wpAnyH_ready (rs := [0]) (by kernel_rfl) (by simp) (AllReadyH.cons (o := ?oocab0) ?_ (fun K hK => ?_) AllReadyH.nil)
      rotate_left
      · simp only [gA, gB, gC]; rfl
      go_simp
      try go_wp2_with fail
      have bz : Below wa.heap.size wa (wa.alloc (.cells #[] 52)) := by go_grown
      have Bb : Hid (Below wr.heap.size wr (wa.alloc (.cells #[] 52))) := jc8 Ba.out bz Ba.out.size
      have Vb : Hid ((wa.alloc (.cells #[] 52)).ownsRow wr.heap.size 52 3 (.slice (some ⟨wa.heap.size, 0, none⟩) 0 0) 0 []) := jc4 (World.ownsRow_made wa #[] 0 (Nat.le_refl _) (by unfold maxLen; omega) rfl) Ba.out.size
      have qb : wa.heap.size < (wa.alloc (.cells #[] 52)).heap.size := by simp
      have Xb : Hid ((wa.alloc (.cells #[] 52)).heap[wr.heap.size]? = some (.cells #[.slice none 0 0] 63 (0, 0))) := (bz.block _ (by omega)).trans Xa.out
      have zb := Bb.out.size
      generalize (wa.alloc (.cells #[] 52)) = wb at *
      clear bz
      refine hK.out _ _ ⟨(Bb.out.cell hPl).trans c0, (Bb.out.cell hOl).trans e0, (Bb.out.cell hgl).trans q1⟩ (fun hHl => ?_)
      clear hK K
      try simp only [Act.put, gD, gE, gF]
      refine wpAnyH_ready (rs := [10]) (by kernel_rfl) (by simp) (AllReadyH.cons (o := ?oocab10) ?_ (fun K hK => ?_) AllReadyH.nil)
      rotate_left
      · simp only [gA, gB, gC]; rfl
      obtain ⟨_, hcs⟩ := jo2 hp0 (jd0 HR1.out Bb.out)
      refine step_append_lies _ rfl (.tmp 21) (.tmp 30) 61 rfl wr.heap.size 52 i0 (.agg #[.int .i64 0, .int .i64 0, .int .i64 0]) 3 24 Tryz.underlying61 hi0 hz0 hz1 hz2 rfl (by decide) (.slice (some ⟨wa.heap.size, 0, none⟩) 0 0) 0 [] rfl Vb.out ⟨gx, ox, none⟩ p.length cx (ja3 p) rfl (je0 p) hcs (je4 p) hp0 (by unfold maxLen; omega) (by omega) Bb.out.size _ rfl ?_
      intro gn cn w9 own9 grow9 _ _
      clear hcs
      have V9 : Hid (w9.ownsRow wr.heap.size 52 3 (.slice (some ⟨gn, 0, none⟩) p.length cn) p.length (ja3 p)) := by (have hh := own9; simp only [Nat.zero_add, List.nil_append] at hh; exact hh)
      have B9 : Hid (Below wr.heap.size wr w9) := Bb.out.grown grow9 Bb.out.size (fun k hk => (World.ownsRow.lt Vb.out k hk).1)
      have X9 : Hid (w9.heap[wr.heap.size]? = some (.cells #[.slice none 0 0] 63 (0, 0))) := (grow9.block _ (by omega) (fun e => absurd (Option.some.inj (show some (wr.heap.size) = some (wa.heap.size) from e)) (by omega))).trans Xb.out
      have z9 := B9.out.size
      clear own9 grow9
      simp only [Nat.zero_add]
      refine hK.out _ _ ⟨(B9.out.cell hPl).trans c0, (B9.out.cell hOl).trans e0, (B9.out.cell hgl).trans q1⟩ (fun hHl => ?_)
      clear hK K
      try simp only [Act.put, gD, gE, gF]
      refine wpAnyH_take (i := 11) (oi := ?oicab11) (v := .agg #[.slice (some ⟨gn, 0, none⟩) p.length cn]) ?_ (by kernel_rfl) (by kernel_rfl) (by kernel_rfl) ?_ ?_ hHl ?_
      rotate_left
      · simp only [gA, gB, gC]; rfl
      · exact fun _ _ _ h => h
      · exact Or.inl ⟨by kernel_rfl, fun w hSw => by go_simp⟩
      try simp only [Act.put, gD, gE, gF]
      refine wpAnyH_ready (rs := [13]) (by kernel_rfl) (by simp) (AllReadyH.cons (o := ?oocab13) ?_ (fun K hK => ?_) AllReadyH.nil)
      rotate_left
      · simp only [gA, gB, gC]; rfl
      obtain ⟨o1, o2⟩ := ja4 X9.out
      go_simp
      try go_wp2_with fail
      have Bs : Hid (Below wr.heap.size wr (w9.setCell ⟨wr.heap.size, 0, none⟩ (.slice (some ⟨gn, 0, none⟩) p.length cn))) := B9.out.setCell (by simp <;> omega) _
      refine hK.out _ _ ⟨(Bs.out.cell hPl).trans c0, (Bs.out.cell hOl).trans e0, (Bs.out.cell hgl).trans q1⟩ (fun hHl => ?_)
      clear hK K
      try simp only [Act.put, gD, gE, gF]
      refine wpAnyH_done (by kernel_rfl) ?_ _
      have hgX : wr.heap.size ≠ gn := fun e => kind14 X9.out V9.out (by decide) e
      exact hk wr.heap.size (.slice (some ⟨wa.heap.size, 0, none⟩) 0 0) gn cn _ ⟨jg1 X9.out _, (by omega), (World.ownsRow.lt V9.out gn rfl).1, Bs.out, ownsRow_setCell_other V9.out (fun e => hgX (Option.some.inj e).symm) _⟩
    case restcs =>
     intro X x21 gn cn wf hF
     obtain ⟨hX, hXl, hgn, bF, ownF⟩ := hF
     have zF := bF.size
     have FP := (bF.cell hPl).trans c0
     have FX := (ja4 hX).1
     have FT := (bF.cell hgl).trans q1
     have hXg : X ≠ gn := fun e => kind14 hX ownF (by decide) e
     have FO : Hid (∀ (j : Nat) (y : Int), R[j]? = some y → wf.cell? ⟨go, j, none⟩ = some (.int .i64 y)) := by
      intro j y hj
      have hjl := (List.getElem?_eq_some_iff.1 hj).1
      rw [HN.out] at hjl
      have := World.ownsRow.cellAt HOR.out j (by omega)
      rw [Nat.mul_one] at *
      refine (bF.cell (p := ⟨go, j, none⟩) hOl).trans (this.trans ?_)
      simp [ints, hj]
     have FK := (bF.cell hOl).trans e0
     have RF : Hid (∀ (m : Nat) (s : Stm), p[m]? = some s → wf.cell? ⟨gx, ox + m * 3 + 2, none⟩ = some (.int .i64 s.y)) := by
      intro m s hs
      obtain ⟨_, _, eV, hcx⟩ := jd0 HR1.out bF
      injection eV with eV1 eV2 eV3
      obtain ⟨g', off', eA, _, _, a2⟩ := hcx m s hs
      rw [eA] at eV1
      simp only [Option.some.injEq, Addr.mk.injEq, and_true] at eV1
      obtain ⟨rfl, rfl⟩ := eV1
      exact a2
     have own0 : wf.ownsRow wr.heap.size 52 3 (.slice (some ⟨gn, 0, none⟩) p.length cn) p.length (ja3 (jg8 (je5 R) p 0)) := by rw [qc8]; exact ownF
     have hnd : Hid R.Nodup := hOr.o.nd
     have HCLx : Hid (∀ s ∈ p, s.k = 8 → s.y ∈ R) := hcl
     have FXH : Hid (wf.heap[X]? = some (.cells #[.slice (some ⟨gn, 0, none⟩) p.length cn] 63 (0, 0))) := hX
     clear c0 e0 q1 ownF hcl hX
     obtain ⟨wo, hwo⟩ : ∃ wo, wo = wr := ⟨wr, rfl⟩
     rw [← hwo] at own0 hb hsz hgn hXl zF bF HOW HBO HOR HB0 HB1 HR1 hPl hOl hgl
     clear hwo
     obtain ⟨N, hN⟩ : ∃ N, p.length = N := ⟨_, rfl⟩
     have HNP : Hid _ := hN
     rw [hN] at own0 FT hpl hp0 FX ⊢
     rw [hN] at FXH
     clear hN
     go_wp2
     go_loopw [9] (fun q wr => ∃ m : Nat, m ≤ N ∧ q = .int .i64 m ∧ wr.ownsRow wo.heap.size 52 3 (.slice (some ⟨gn, 0, none⟩) N cn) N (ja3 (jg8 (je5 R) p m)) ∧ wf.grownBy wr (some gn)) (fun q _ => N - (intOf q).toNat)
     case atStart => exact ⟨0, Nat.zero_le _, rfl, own0, World.grownBy.refl _ _⟩
     case round =>
      obtain ⟨m, hm, rfl, own, gr⟩ := hrel
      clear own0
      have xX := gr.cell FX (by simp; omega)
      by_cases hlm : m < N
      · have hlm' : (m : Int) < (N : Int) := by omega
        have hmp : m < p.length := by rw [HNP.out]; exact hlm
        have hget := jy1 (je5 R) p m hmp
        obtain ⟨e0, e1, e2⟩ := jk7 _ m _ hget
        have q0 := (own.cellAt (m * 3) (by omega)).trans e0
        have q2 := (own.cellAt (m * 3 + 2) (by omega)).trans e2
        have hset := fun y => jo1 (jg8 (je5 R) p m) m p[m] y hget
        have hsuc := ju3 (je5 R) p m hmp
        have hsam := qe2 (je5 R) p m hmp
        have hyes := @ren14_yes R p[m]
        have hno := @ren14_no R p[m]
        have hmem := HCLx.out p[m] (List.getElem_mem hmp)
        have hgl2 := (own.lt gn rfl).2
        have HA2 : Hid _ := RF.out m p[m] (by simp)
        generalize p[m] = s at *
        obtain ⟨sk, sx, sy⟩ := s
        simp only at hset hsuc hsam hyes hno hmem q0 q2
        have HA2 : Hid (wf.cell? ⟨gx, ox + m * 3 + 2, none⟩ = some (.int .i64 sy)) := HA2.out
        have HSET : Hid _ := hset
        have HSUC : Hid _ := hsuc
        have HSAM : Hid _ := hsam
        have HYES : Hid _ := hyes
        have HNO : Hid _ := hno
        clear hset hsuc hsam hyes hno hget e0 e1 e2
        by_cases h8 : sk = 8
        · subst h8
          have hmem := hmem rfl
          have hP1 := jj9 hmem
          have hP2 := jm4 hmem
          have hP3 : Hid (∀ j, R[j]? = some sy → jh8 R sy = j) := fun j hj => jp2 hnd.out hj
          have HY : Hid _ := HYES.out rfl
          obtain ⟨P, hP⟩ : ∃ P, jh8 R sy = P := ⟨_, rfl⟩
          have HP : Hid _ := hP
          rw [hP] at hP1 hP2 hP3
          rw [HN.out] at hP1
          have HP2 : Hid _ := hP2
          have hst : wr.ownsRow wo.heap.size 52 3 (.slice (some ⟨gn, 0, none⟩) N cn) N (ja3 (if P < 0 then jg8 (je5 R) p (m + 1) else jg8 (je5 R) p m)) := by rw [if_neg (by omega)]; exact own
          obtain ⟨wm, hwm⟩ : ∃ wm, wm = wr := ⟨wr, rfl⟩
          have hq2 : sy = sy := rfl
          have HSU : Hid ((ja3 (jg8 (je5 R) p m)).set (m * 3 + 2) (.int .i64 (P : Int)) = ja3 (jg8 (je5 R) p (m + 1))) := by
           show _ = _
           rw [HSET.out (P : Int), HSUC.out, HY.out, HP.out]
          clear hP hP2 HYES HNO HSAM HSET HSUC HY hmem own q2 HP hq2
          go_wp2
          clear hwm xX q0
          go_loopw [10] (fun q wr => ∃ j : Nat, j ≤ n ∧ q = .int .i64 j ∧ wr.ownsRow wo.heap.size 52 3 (.slice (some ⟨gn, 0, none⟩) N cn) N (ja3 (if P < j then jg8 (je5 R) p (m + 1) else jg8 (je5 R) p m)) ∧ wf.grownBy wr (some gn)) (fun q _ => n - (intOf q).toNat)
          case atStart => exact ⟨0, Nat.zero_le _, rfl, hst, gr⟩
          case round =>
           obtain ⟨j, hj, rfl, own, gr⟩ := hrel
           clear hst
           by_cases hlj : j < n
           · have hlj' : (j : Int) < (n : Int) := by omega
             have hjR : j < R.length := by rw [HN.out]; exact hlj
             have xJ := gr.cell (FO.out j R[j] (List.getElem?_eq_getElem hjR)) (by simp; omega)
             have xK := gr.cell FK (by simp; omega)
             have xP := gr.cell FP (by simp; omega)
             have xT := gr.cell FT (by simp; omega)
             have xY := gr.cell HA2.out (by simp; omega)
             have xX := gr.cell FX (by simp; omega)
             have hjP : Hid (R[j] = sy → P = j) := fun h => hP3.out j (by rw [List.getElem?_eq_getElem hjR, h])
             have hPj : Hid (P = j → R[j] = sy) := fun h => by have h5 := HP2.out; rw [h, List.getElem?_eq_getElem hjR] at h5; exact Option.some.inj h5
             generalize R[j] = y at *
             by_cases hy : y = sy
             · have hPe : Hid (P = j) := hjP.out hy
               have hy' : (y == sy) = true := by simpa using hy
               rw [if_neg (by have := hPe.out; omega)] at own
               obtain ⟨z0, d0⟩ := jo6 own (m * 3 + 2) (by omega)
               have f0 := own.frozenAt (m * 3 + 2)
               have f0d : wr.drew.frozen? ⟨gn, m * 3 + 2, none⟩ = false := f0
               have d0d : wr.drew.cell? ⟨gn, m * 3 + 2, none⟩ = some z0 := d0
               have HST : Hid ((wr.drew.setCell ⟨gn, m * 3 + 2, none⟩ (.int .i64 (j : Int))).ownsRow wo.heap.size 52 3 (.slice (some ⟨gn, 0, none⟩) N cn) N (ja3 (jg8 (je5 R) p (m + 1)))) := by
                have h5 := (World.ownsRow.stored (w := wr.drew) own (m * 3 + 2) (.int .i64 (j : Int))).1
                rw [← hPe.out, HSU.out, hPe.out] at h5
                exact h5
               have HGR : Hid (wf.grownBy (wr.drew.setCell ⟨gn, m * 3 + 2, none⟩ (.int .i64 (j : Int))) (some gn)) := ja8 (ja8 gr (jb3 (Below.drew (Below.refl _ wr)) _)) (jc3 _ _ _ _)
               clear hjP hPj hy own
               go_wp2_with fail
               go_region
               go_wp2
               go_roundw
               case rel => exact ⟨j + 1, by omega, by go_num, by rw [if_pos (by have := hPe.out; omega)]; exact HST.out, HGR.out⟩
               case measure => simp [intOf]; omega
             · have hPn : Hid (¬ P = j) := fun h => hy (hPj.out h)
               have hy' : (y == sy) = false := by simpa using hy
               have HOW2 : Hid (wr.drew.ownsRow wo.heap.size 52 3 (.slice (some ⟨gn, 0, none⟩) N cn) N (ja3 (if P < j + 1 then jg8 (je5 R) p (m + 1) else jg8 (je5 R) p m))) := by
                have e5 : (P < j + 1) = (P < j) := propext ⟨fun h => by have := hPn.out; omega, fun h => by omega⟩
                simp only [e5]
                exact own
               have HGR : Hid (wf.grownBy wr.drew (some gn)) := ja8 gr (jb3 (Below.drew (Below.refl _ wr)) _)
               clear hjP hPj hy own
               go_wp2_with fail
               go_region
               go_wp2
               go_roundw
               case rel => exact ⟨j + 1, by omega, by go_num, HOW2.out, HGR.out⟩
               case measure => simp [intOf]; omega
           · have hjj : j = n := by omega
             rw [if_pos (by omega)] at own
             clear hP3 HP2 HSU
             go_wp2
             go_roundw
             case rel => exact ⟨m + 1, by omega, by go_num, own, gr⟩
             case measure => simp [intOf]; omega
        · have h8' : (sk == 8) = false := by simpa using h8
          have HE : Hid _ := HSAM.out (HNO.out h8)
          clear HYES HNO HSAM HSET HSUC hmem h8
          go_wp2
          go_roundw
          case rel => exact ⟨m + 1, by omega, by go_num, by rw [HE.out]; exact own, gr⟩
          case measure => simp [intOf]; omega
      · have hmm : m = N := by omega
        subst hmm
        have hall := qf4 (je5 R) p
        rw [HNP.out] at hall
        rw [hall] at own
        have bW : Below wo.heap.size wo wr := bF.grown gr bF.size (fun q hq => by have := Option.some.inj hq; omega)
        have OWr := HOW.out.kept bW
        have zW := bW.size
        obtain ⟨ua, um, uc, rfl⟩ := jd4 OWr.row
        have BO := (bW.block O (by omega)).trans HBO.out
        have dO := (ja4 BO).1
        obtain ⟨wl, hwl⟩ : ∃ wl, wr.alloc (.cells #[.slice (some ⟨gn, 0, none⟩) m cn] 63) = wl := ⟨_, rfl⟩
        have bl : Below wr.heap.size wr wl := by rw [← hwl]; go_grown
        have Ll : Hid (wl.heap[wr.heap.size]? = some (.cells #[.slice (some ⟨gn, 0, none⟩) m cn] 63 (0, 0))) := by
         show wl.heap[wr.heap.size]? = _
         rw [← hwl]; exact heap_alloc_new wr _
        have zl := bl.size
        have OWl : Hid (Own13 wl (O + 1) (.slice ua um uc) us (C.take k)) := OWr.kept bl
        have Vl : Hid (wl.ownsRow wo.heap.size 52 3 (.slice (some ⟨gn, 0, none⟩) m cn) m (ja3 (p.map (je5 R)))) := jc0 own bl
        have rowl := OWl.out.row
        rw [HKL.out] at rowl
        have bLo : Below wo.heap.size wo wl := jc8 bW bl bW.size
        have hfr : ∀ y ∈ us, ∀ q, y.ownBlock = some q → (Value.slice (some ⟨gn, 0, none⟩) m cn).ownBlock ≠ some q := fun y hy q hq e => by (have h1 := HOW.out.lts y hy q hq; have h3 : gn = q := Option.some.inj e; omega)
        have HFR : Hid _ := hfr
        have HROW : Hid (wl.ownsRow (O + 1) 63 1 (.slice ua um uc) k us) := rowl
        have hcs : Hid (∀ j u, [Value.slice (some ⟨gn, 0, none⟩) m cn][j]? = some u → wl.cell? ((⟨wr.heap.size, 0, none⟩ : Addr).add j) = some u) := World.news_of_block Ll.out
        have HWL : Hid _ := hwl
        clear hfr rowl hwl OWr own hall
        go_wp2_with (first
         | (at_builtin; refine wpList_append_own _ rfl (.tmp 78) (.tmp 80) 24 rfl (O + 1) 63 j0 (.agg #[.slice none 0 0]) 1 24 Tryz.underlying24 hj0 hy0 hy1 hy2 rfl (by decide) _ k us rfl (by rw [HWL.out]; exact HROW.out) ⟨wr.heap.size, 0, none⟩ 1 1 [.slice (some ⟨gn, 0, none⟩) m cn] rfl rfl (by rw [HWL.out]; exact hcs.out) (by simp [Value.oneCell']) (by unfold maxLen; omega) (by omega) (by rw [HWL.out]; omega) ?_; intro v3 w3 own3 grow3 _; refine qc1 ?_)
         | go_in)
        rw [HWL.out] at grow3
        obtain ⟨g3, c3, rfl⟩ := own_pos own3 (by omega)
        have b3 : Below wo.heap.size wo w3 ∨ True := .inr trivial
        have G3 : Below (O + 1) wo w3 := (bLo.mono (by omega)).grown grow3 (by omega) (fun q hq => (HROW.out.lt q hq).1)
        have HO3 : Hid (Own13 w3 (O + 1) (.slice (some ⟨g3, 0, none⟩) (k + 1) c3) (us ++ [.slice (some ⟨gn, 0, none⟩) m cn]) (C.take (k + 1))) := by
         show Own13 _ _ _ _ _
         rw [HCK.out]
         have hpm : (p.map (je5 R)).length = m := by rw [List.length_map, HNP.out]
         exact Own13.app OWl.out (by rw [hpm]; exact jc4 Vl.out (by omega)) HFR.out grow3 (by rw [HKL.out]; exact own3)
        have BO3 := (G3.block O (by omega)).trans HBO.out
        have HB3 : Hid (Below w.heap.size w w3) := hb.trans (G3.mono (by omega))
        have z3 := G3.size
        have dO3 := ja4 BO3
        have HO5 : Hid (Own13 (w3.setCell ⟨O, 0, none⟩ (.slice (some ⟨g3, 0, none⟩) (k + 1) c3)) (O + 1) (.slice (some ⟨g3, 0, none⟩) (k + 1) c3) (us ++ [.slice (some ⟨gn, 0, none⟩) m cn]) (C.take (k + 1))) := HO3.out.grown (jc3 _ _ _ _) (fun q hq => .inl (by have := Option.some.inj hq; omega))
        have HQ5 : Hid ((w3.setCell ⟨O, 0, none⟩ (.slice (some ⟨g3, 0, none⟩) (k + 1) c3)).heap[O]? = some (.cells #[.slice (some ⟨g3, 0, none⟩) (k + 1) c3] 26 (0, 0))) := jg1 BO3 _
        have HR5 : Hid ((w3.setCell ⟨O, 0, none⟩ (.slice (some ⟨g3, 0, none⟩) (k + 1) c3)).heap[w.heap.size + 1]? = some (.cells #[.slice none 0 0] 26 (0, 0))) := (Below.heap_setCell _ _ _ _ (by simp; omega)).trans ((G3.block _ (by omega)).trans HB1.out)
        have HP5 : Hid ((w3.setCell ⟨O, 0, none⟩ (.slice (some ⟨g3, 0, none⟩) (k + 1) c3)).heap[w.heap.size]? = some (.cells #[.slice (some ⟨gv, off, none⟩) ps.length vcap] 26 (0, 0))) := (Below.heap_setCell _ _ _ _ (by simp; omega)).trans ((G3.block _ (by omega)).trans HB0.out)
        have HN5 : Hid ((w3.setCell ⟨O, 0, none⟩ (.slice (some ⟨g3, 0, none⟩) (k + 1) c3)).ownsRow 0 2 1 (.slice (some ⟨go, 0, none⟩) n co) n (ints R)) := ownsRow_setCell_other (own_below HOR.out G3 (fun q hq => by have h3 : go = q := Option.some.inj hq; omega)) (fun e => by have := Option.some.inj e; simp at this; omega) _
        have HB5 : Hid (Below w.heap.size w (w3.setCell ⟨O, 0, none⟩ (.slice (some ⟨g3, 0, none⟩) (k + 1) c3))) := HB3.out.setCell (by simp; omega) _
        obtain ⟨dO3, fO3⟩ := dO3
        clear BO3 grow3 own3 BO
        unfold Stop14
        go_wp2
        go_roundw
        case rel => exact ⟨k + 1, _, _, by omega, by go_num, HO5.out, HQ5.out, HR5.out, HP5.out, HN5.out, HB5.out, by simp [World.setCell]; omega⟩
        case measure => simp [intOf]; omega
  · have hkk : k = n := by omega
    subst hkk
    have hCa : C.take k = C := List.take_of_length_le (by rw [HCL.out, HN.out]; omega)
    rw [hCa] at OW
    obtain ⟨ua, um, uc, rfl⟩ := jd4 OW.row
    obtain ⟨dO, _⟩ := ja4 BO
    obtain ⟨d1, f1⟩ := ja4 B1
    have d2 := (ja4 (jg1 B1 (.slice ua um uc))).1
    have HF : Hid (Own13 (wr.setCell ⟨w.heap.size + 1, 0, none⟩ (.slice ua um uc)) w.heap.size (.slice ua um uc) us C) := (OW.grown (jc3 _ _ _ _) (fun k hk => .inl (by have := Option.some.inj hk; omega))).mono (by omega)
    have HB : Hid (Below w.heap.size w (wr.setCell ⟨w.heap.size + 1, 0, none⟩ (.slice ua um uc))) := hb.setCell (by simp) _
    clear OW hCa
    go_wp2
    refine bodyPost_ret (v := .agg #[.slice ua um uc]) (by simp [results, Tryz.results34, go_sem, d2]) rfl ?_
    exact ⟨_, us, rfl, HF.out, HB.out⟩
theorem specClosure (ps : List (List Stm)) (i : Int) (v : Value) (w : World) (hl : ps.length ≤ maxLen) (hp : ∀ p ∈ ps, p.length ≤ maxLen) (hv : jb5 w v ps) :
 Calls Tryz.prog 12 #[.agg #[v], .int .i64 i] w fun e w' => ∃ u us, e = .returned (.agg #[u]) ∧ Own13 w' w.heap.size u us (cloA ps i) ∧ Below w.heap.size w w' := by
 obtain ⟨W0, hW0⟩ : ∃ W0, (w.alloc (.cells #[v] 26)).alloc (.cells #[.slice none 0 0] 26) = W0 := ⟨_, rfl⟩
 have b0 : Below w.heap.size w W0 := by rw [← hW0]; go_grown
 have s0 : W0.heap.size = w.heap.size + 2 := by rw [← hW0]; simp
 have H0 : W0.heap[w.heap.size]? = some (.cells #[v] 26 (0, 0)) := by rw [← hW0, ja2 (by simp)]; exact heap_alloc_new w _
 have H1 : W0.heap[w.heap.size + 1]? = some (.cells #[.slice none 0 0] 26 (0, 0)) := by
  rw [← hW0]
  have := heap_alloc_new (w.alloc (.cells #[v] 26)) (.cells #[.slice none 0 0] 26)
  simpa using this
 have hin := l3In ps i v W0 hl hp (ja0 hv b0)
 have HW0 : Hid _ := hW0
 have c0 := (ja4 H0).1
 clear hW0
 cases hok : hasB ps i
 · have hca : cloA ps i = [] := by unfold cloA; rw [hok]; rfl
   rw [hca]
   rw [hok] at hin
   clear hca hok
   obtain ⟨ao, vcap, rfl, _⟩ := hv
   go_enter Tryz.func12, Tryz.ntmps12
   go_wp2_with fail
   rw [HW0.out]
   clear HW0
   go_wp2_with fail
   go_at_call 33
   refine hin.mono ?_
   rintro e w1 ⟨rfl, b1⟩
   have s1 := b1.size
   have H11 := (b1.block (w.heap.size + 1) (by omega)).trans H1
   have L1 : Below w.heap.size w w1 := jc8 b0 b1 (by omega)
   obtain ⟨d1, f1⟩ := ja4 H11
   have d2 := (ja4 (jg1 H11 (.slice none 0 0))).1
   have HB : Hid (Below w.heap.size w (w1.setCell ⟨w.heap.size + 1, 0, none⟩ (.slice none 0 0))) := L1.setCell (by simp) _
   clear hin c0 H0 H1 b0 b1
   go_wp2
   refine bodyPost_ret (v := .agg #[.slice none 0 0]) (by simp [results, Tryz.results12, go_sem, d2]) rfl ?_
   exact ⟨_, [], rfl, jn5 _ _, HB.out⟩
 · have hca : cloA ps i = jf7 ps (jg4 ps i) := by unfold cloA; rw [hok]; rfl
   rw [hca]
   rw [hok] at hin
   have hcl := fun W hW => l14Closure ps i v W hok hW
   obtain ⟨C, hC⟩ : ∃ C, jf7 ps (jg4 ps i) = C := ⟨_, rfl⟩
   rw [hC] at hcl ⊢
   have HHV : Hid _ := hv
   clear hca hok hC
   obtain ⟨ao, vcap, rfl, _⟩ := hv
   go_enter Tryz.func12, Tryz.ntmps12
   go_wp2_with fail
   rw [HW0.out]
   clear HW0
   go_wp2_with fail
   go_at_call 33
   refine hin.mono ?_
   rintro e w1 ⟨rfl, b1⟩
   have s1 := b1.size
   have H10 := (b1.block w.heap.size (by omega)).trans H0
   have H11 := (b1.block (w.heap.size + 1) (by omega)).trans H1
   have L1 : Below w.heap.size w w1 := jc8 b0 b1 (by omega)
   have hcl1 := hcl w1 (ja0 HHV.out L1)
   have c1 := (ja4 H10).1
   clear hin c0 H0 H1 b0 b1 hcl
   go_wp2_with fail
   go_at_call 34
   refine hcl1.mono ?_
   rintro e w2 ⟨u, us, rfl, o2, b2⟩
   have s2 := b2.size
   have H21 := (b2.block (w.heap.size + 1) (by omega)).trans H11
   have L2 : Below w.heap.size w w2 := jc8 L1 b2 (by omega)
   obtain ⟨ua, um, uc, rfl⟩ := jd4 o2.row
   obtain ⟨d1, f1⟩ := ja4 H21
   have d2 := (ja4 (jg1 H21 (.slice ua um uc))).1
   have HB : Hid (Below w.heap.size w (w2.setCell ⟨w.heap.size + 1, 0, none⟩ (.slice ua um uc))) := L2.setCell (by simp) _
   have HO : Hid (Own13 (w2.setCell ⟨w.heap.size + 1, 0, none⟩ (.slice ua um uc)) w.heap.size (.slice ua um uc) us C) := (o2.grown (jc3 _ _ _ _) (fun k hk => .inl (by have := Option.some.inj hk; omega))).mono (by omega)
   clear o2 hcl1
   go_wp2
   refine bodyPost_ret (v := .agg #[.slice ua um uc]) (by simp [results, Tryz.results12, go_sem, d2]) rfl ?_
   exact ⟨_, us, rfl, HO.out, HB.out⟩
end Go.Proofs.YtldagpfeaabcdaaGreatDoor
