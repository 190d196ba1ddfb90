/-
 impl.Alike's closure; impl.cameThrough over it; impl.Alike.
-/
import Derived.Test.YtldagpfeaabcdaaGreatDoorG40Alike14
import Derived.Deep.RegionHeld
namespace Go.Proofs.YtldagpfeaabcdaaGreatDoor
open Go.RowKit
set_option linter.unusedVariables false
set_option linter.unusedSimpArgs false
set_option maxHeartbeats 4000000
set_option maxRecDepth 20000
theorem OwnPl.other {w : World} {base : Nat} {v : Value} {X : List Int} (h : OwnPl w base v X) {a : Addr} (ha : a.block < base) (u : Value) : OwnPl (w.setCell a u) base v X := by
 obtain ⟨n, h1, h2⟩ := h.ex
 exact ⟨n, h1, ownsRow_setCell_below h2 ha u⟩
theorem OwnPl.slice {w : World} {base : Nat} {v : Value} {X : List Int} (h : OwnPl w base v X) : ∃ a m c, v = .slice a m c := by
 obtain ⟨n, h1, h2⟩ := h.ex
 exact jd4 h2
theorem readsCon {w : World} {base : Nat} {v : Value} {n : Nat} {xs : List Value} (h : w.ownsRow base 9 1 v n xs) : jf8 w v xs := jc5 h
theorem alike1_yes (ps1 ps2 : List (List Stm)) (v u x : Value) (a b c : Nat) (w : World) (hla : ps1.length ≤ maxLen) (hpa : ∀ p ∈ ps1, p.length ≤ maxLen) (hlb : ps2.length ≤ maxLen) (hpb : ∀ p ∈ ps2, p.length ≤ maxLen) (hoa : ja5 ps1 = true) (hob : ja5 ps2 = true) (hv : jb5 w v ps1) (hu : jb5 w u ps2)
 (ha : w.heap[a]? = some (.cells #[v] 26 (0, 0))) (hb : w.heap[b]? = some (.cells #[u] 26 (0, 0))) (hc : w.heap[c]? = some (.cells #[x] 29 (0, 0))) :
 Calls Tryz.prog 26 #[.pointer (some ⟨a, 0, none⟩), .pointer (some ⟨b, 0, none⟩), .pointer (some ⟨c, 0, none⟩)] w fun e w' => e = .returned (.tuple #[]) ∧ ∃ y, OwnPl w' w.heap.size y (jl0 ps1 ps2) ∧ w'.heap[c]? = some (.cells #[y] 29 (0, 0)) ∧ w.grownBy w' (some c) := by
 have hca := fun W (hW : jb5 W v ps1) => js5 ps1 v W hla hpa hoa hW
 have hcb := fun W (hW : jb5 W u ps2) => js5 ps2 u W hlb hpb hob hW
 obtain ⟨h4a, _, _⟩ := jc1 hoa
 obtain ⟨h4b, _, _⟩ := jc1 hob
 have HAL : Hid (jl0 ps1 ps2 = allA (ji7 ps1 ps2) ps2.length ps1.length) := by (show _ = _; unfold jl0; rw [hoa, hob]; rfl)
 have c0 := (ja4 ha).1
 have c1 := (ja4 hb).1
 have la := (Array.getElem?_eq_some_iff.1 ha).1
 have lb := (Array.getElem?_eq_some_iff.1 hb).1
 have lc := (Array.getElem?_eq_some_iff.1 hc).1
 clear hoa hob ha hb
 go_enter Tryz.func26, Tryz.ntmps26
 go_wp2_with fail
 refine jg2 (S := fun w' => w'.cell? ⟨a, 0, none⟩ = some v ∧ w'.cell? ⟨b, 0, none⟩ = some u) (late := fun j => j == 5) (by kernel_rfl) ⟨c0, c1⟩ (fun hHl => ?_)
 refine ja1 (i := 0) (oi := ?oiy0) (v := .agg #[v]) ?_ (by kernel_rfl) (by kernel_rfl) (by kernel_rfl) (by kernel_rfl) ?_ ?_ hHl ?_
 rotate_left
 · simp only [gA, gB, gC]; rfl
 · exact fun _ _ _ h => h
 · exact Or.inl ⟨by kernel_rfl, fun w hSw => by obtain ⟨s0, s1⟩ := hSw; go_simp⟩
 try simp only [Act.put, gD, gE, gF]
 refine ja1 (i := 2) (oi := ?oiy2) (v := .agg #[u]) ?_ (by kernel_rfl) (by kernel_rfl) (by kernel_rfl) (by kernel_rfl) ?_ ?_ hHl ?_
 rotate_left
 · simp only [gA, gB, gC]; rfl
 · exact fun _ _ _ h => h
 · exact Or.inl ⟨by kernel_rfl, fun w hSw => by obtain ⟨s0, s1⟩ := hSw; go_simp⟩
 try simp only [Act.put, gD, gE, gF]
 refine ja7 (rs := [1]) (by kernel_rfl) (by simp) (AllReadyG.cons (o := ?ooy1) ?_ (fun K hK => ?_) AllReadyG.nil)
 rotate_left
 · simp only [gA, gB, gC]; rfl
 go_simp
 go_at_call 28
 refine (hca _ (ja0 hv (Below.drew (Below.refl _ _)))).mono ?_
 rintro e x1 ⟨gx1, rfl, ox1, bx1⟩
 have Bx1 : Hid (Below w.heap.size w x1) := Below.trans (Below.drew (Below.refl _ _)) (bx1.mono (by first | exact Nat.le_refl _ | exact Bx.out.size))
 have Ox1 : Hid (x1.ownsRow w.heap.size 9 1 (.slice (some ⟨gx1, 0, none⟩) ps1.length ps1.length) ps1.length (jg7 ps1 ps1.length)) := jc4 ox1 (by first | exact Nat.le_refl _ | exact Bx.out.size)
 clear ox1 bx1
 try go_wp2_with fail
 refine hK.out _ _ (Or.inr ⟨(Bx1.out.cell la).trans c0, (Bx1.out.cell lb).trans c1⟩) (fun hHl => ?_)
 replace hHl := hHl.resolve_left (by decide)
 clear hK K
 try simp only [Act.put, gD, gE, gF]
 refine ja7 (rs := [3]) (by kernel_rfl) (by simp) (AllReadyG.cons (o := ?ooy3) ?_ (fun K hK => ?_) AllReadyG.nil)
 rotate_left
 · simp only [gA, gB, gC]; rfl
 go_simp
 go_at_call 28
 refine (hcb _ (ja0 hu (Bx1.out))).mono ?_
 rintro e x3 ⟨gx3, rfl, ox3, bx3⟩
 have Bx3 : Hid (Below w.heap.size w x3) := Below.trans (Bx1.out) (bx3.mono (by first | exact Nat.le_refl _ | exact Bx1.out.size))
 have Ox3 : Hid (x3.ownsRow w.heap.size 9 1 (.slice (some ⟨gx3, 0, none⟩) ps2.length ps2.length) ps2.length (jg7 ps2 ps2.length)) := jc4 ox3 (by first | exact Nat.le_refl _ | exact Bx1.out.size)
 have Px3 : Hid _ := jc0 Ox1.out bx3
 clear ox3 bx3
 try go_wp2_with fail
 refine hK.out _ _ (Or.inr ⟨(Bx3.out.cell la).trans c0, (Bx3.out.cell lb).trans c1⟩) (fun hHl => ?_)
 replace hHl := hHl.resolve_left (by decide)
 clear hK K
 try simp only [Act.put, gD, gE, gF]
 refine ja7 (rs := [4]) (by kernel_rfl) (by simp) (AllReadyG.cons (o := ?ooy4) ?_ (fun K hK => ?_) AllReadyG.nil)
 rotate_left
 · simp only [gA, gB, gC]; rfl
 go_simp
 go_at_call 27
 refine (equalPairs ps1 ps2 ps1.length ps2.length _ _ _ h4a h4b (readsCon Px3.out) (readsCon Ox3.out)).mono ?_
 rintro e wq ⟨y, rfl, oy, bq⟩
 have Bq : Hid (Below w.heap.size w wq) := Bx3.out.trans (bq.mono Bx3.out.size)
 have OY : Hid (OwnPl wq w.heap.size y (jl0 ps1 ps2)) := by (show OwnPl _ _ _ _; rw [HAL.out]; exact oy.mono Bx3.out.size)
 obtain ⟨ya, ym, yc, rfl⟩ := OY.out.slice
 have HCq := (Bq.out.block c lc).trans hc
 obtain ⟨dq, fq⟩ := ja4 HCq
 clear oy bq
 try go_wp2_with fail
 refine hK.out _ _ (Or.inr ⟨(Bq.out.cell la).trans c0, (Bq.out.cell lb).trans c1⟩) (fun hHl => ?_)
 replace hHl := hHl.resolve_left (by decide)
 clear hK K
 try simp only [Act.put, gD, gE, gF]
 refine ja7 (rs := [5]) (by kernel_rfl) (by simp) (AllReadyG.cons (o := ?ooy5) ?_ (fun K hK => ?_) AllReadyG.nil)
 rotate_left
 · simp only [gA, gB, gC]; rfl
 go_simp
 try go_wp2_with fail
 refine hK.out _ _ (Or.inl rfl) (fun _ => ?_)
 clear hK K
 try simp only [Act.put, gD, gE, gF]
 refine jh2 (by kernel_rfl) ?_ _
 have HF : Hid (OwnPl (wq.setCell ⟨c, 0, none⟩ (.slice ya ym yc)) w.heap.size (.slice ya ym yc) (jl0 ps1 ps2)) := OY.out.other (by simp; omega) _
 have HC2 : Hid _ := jg1 HCq (.slice ya ym yc)
 have HG : Hid (w.grownBy (wq.setCell ⟨c, 0, none⟩ (.slice ya ym yc)) (some c)) := ja8 (jb3 Bq.out _) (jc3 _ _ _ _)
 go_wp2
 go_end0
 exact ⟨rfl, _, HF.out, HC2.out, HG.out⟩
theorem alike1_nn (ps1 ps2 : List (List Stm)) (v u x : Value) (a b c : Nat) (w : World) (hla : ps1.length ≤ maxLen) (hpa : ∀ p ∈ ps1, p.length ≤ maxLen) (hlb : ps2.length ≤ maxLen) (hpb : ∀ p ∈ ps2, p.length ≤ maxLen) (hoa : ja5 ps1 = false) (hob : ja5 ps2 = false) (hv : jb5 w v ps1) (hu : jb5 w u ps2)
 (ha : w.heap[a]? = some (.cells #[v] 26 (0, 0))) (hb : w.heap[b]? = some (.cells #[u] 26 (0, 0))) (hc : w.heap[c]? = some (.cells #[x] 29 (0, 0))) :
 Calls Tryz.prog 26 #[.pointer (some ⟨a, 0, none⟩), .pointer (some ⟨b, 0, none⟩), .pointer (some ⟨c, 0, none⟩)] w fun e w' => e = .panicked [{ v := jm0, recovered := false }] ∧ Below w.heap.size w w' := by
 have hna := fun W (hW : jb5 W v ps1) => jm9 ps1 v W hla hpa hoa hW
 have hnb := fun W (hW : jb5 W u ps2) => jm9 ps2 u W hlb hpb hob hW
 have c0 := (ja4 ha).1
 have c1 := (ja4 hb).1
 have la := (Array.getElem?_eq_some_iff.1 ha).1
 have lb := (Array.getElem?_eq_some_iff.1 hb).1
 clear hoa hob ha hb
 go_enter Tryz.func26, Tryz.ntmps26
 go_wp2_with fail
 refine wp_region_held_drew (S := fun w' => w'.cell? ⟨a, 0, none⟩ = some v ∧ w'.cell? ⟨b, 0, none⟩ = some u) (by kernel_rfl) ⟨c0, c1⟩ (fun hHl => ?_)
 refine wpAnyH_take (i := 0) (oi := ?oinn0) (v := .agg #[v]) ?_ (by kernel_rfl) (by kernel_rfl) (by kernel_rfl) ?_ ?_ hHl ?_
 rotate_left
 · simp only [gA, gB, gC]; rfl
 · exact fun _ _ _ h => h
 · exact Or.inl ⟨by kernel_rfl, fun w hSw => by obtain ⟨s0, s1⟩ := hSw; go_simp⟩
 try simp only [Act.put, gD, gE, gF]
 refine wpAnyH_take (i := 2) (oi := ?oinn2) (v := .agg #[u]) ?_ (by kernel_rfl) (by kernel_rfl) (by kernel_rfl) ?_ ?_ hHl ?_
 rotate_left
 · simp only [gA, gB, gC]; rfl
 · exact fun _ _ _ h => h
 · exact Or.inl ⟨by kernel_rfl, fun w hSw => by obtain ⟨s0, s1⟩ := hSw; go_simp⟩
 try simp only [Act.put, gD, gE, gF]
 refine wpAnyH_ready (rs := [1]) (by kernel_rfl) (by simp) (AllReadyH.cons (o := ?oonn1) ?_ (fun K hK => ?_) AllReadyH.nil)
 rotate_left
 · simp only [gA, gB, gC]; rfl
 go_simp
 go_at_call 28
 refine (hna _ (ja0 hv (Below.drew (Below.refl _ _)))).mono ?_
 rintro e wz ⟨rfl, bz⟩
 have Bz : Hid (Below w.heap.size w wz) := Below.trans (Below.drew (Below.refl _ _)) (bz.mono (by first | exact Nat.le_refl _ | exact Bx.out.size))
 clear bz
 exact ⟨rfl, rfl, Bz.out⟩
 try go_wp2_with fail
theorem alike1_ny (ps1 ps2 : List (List Stm)) (v u x : Value) (a b c : Nat) (w : World) (hla : ps1.length ≤ maxLen) (hpa : ∀ p ∈ ps1, p.length ≤ maxLen) (hlb : ps2.length ≤ maxLen) (hpb : ∀ p ∈ ps2, p.length ≤ maxLen) (hoa : ja5 ps1 = false) (hob : ja5 ps2 = true) (hv : jb5 w v ps1) (hu : jb5 w u ps2)
 (ha : w.heap[a]? = some (.cells #[v] 26 (0, 0))) (hb : w.heap[b]? = some (.cells #[u] 26 (0, 0))) (hc : w.heap[c]? = some (.cells #[x] 29 (0, 0))) :
 Calls Tryz.prog 26 #[.pointer (some ⟨a, 0, none⟩), .pointer (some ⟨b, 0, none⟩), .pointer (some ⟨c, 0, none⟩)] w fun e w' => e = .panicked [{ v := jm0, recovered := false }] ∧ Below w.heap.size w w' := by
 have hna := fun W (hW : jb5 W v ps1) => jm9 ps1 v W hla hpa hoa hW
 have hcb := fun W (hW : jb5 W u ps2) => js5 ps2 u W hlb hpb hob hW
 have c0 := (ja4 ha).1
 have c1 := (ja4 hb).1
 have la := (Array.getElem?_eq_some_iff.1 ha).1
 have lb := (Array.getElem?_eq_some_iff.1 hb).1
 clear hoa hob ha hb
 go_enter Tryz.func26, Tryz.ntmps26
 go_wp2_with fail
 refine wp_region_held_drew (S := fun w' => w'.cell? ⟨a, 0, none⟩ = some v ∧ w'.cell? ⟨b, 0, none⟩ = some u) (by kernel_rfl) ⟨c0, c1⟩ (fun hHl => ?_)
 refine wpAnyH_take (i := 0) (oi := ?oiny0) (v := .agg #[v]) ?_ (by kernel_rfl) (by kernel_rfl) (by kernel_rfl) ?_ ?_ hHl ?_
 rotate_left
 · simp only [gA, gB, gC]; rfl
 · exact fun _ _ _ h => h
 · exact Or.inl ⟨by kernel_rfl, fun w hSw => by obtain ⟨s0, s1⟩ := hSw; go_simp⟩
 try simp only [Act.put, gD, gE, gF]
 refine wpAnyH_take (i := 2) (oi := ?oiny2) (v := .agg #[u]) ?_ (by kernel_rfl) (by kernel_rfl) (by kernel_rfl) ?_ ?_ hHl ?_
 rotate_left
 · simp only [gA, gB, gC]; rfl
 · exact fun _ _ _ h => h
 · exact Or.inl ⟨by kernel_rfl, fun w hSw => by obtain ⟨s0, s1⟩ := hSw; go_simp⟩
 try simp only [Act.put, gD, gE, gF]
 refine wpAnyH_ready (rs := [1]) (by kernel_rfl) (by simp) (AllReadyH.cons (o := ?oony1) ?_ (fun K hK => ?_) AllReadyH.nil)
 rotate_left
 · simp only [gA, gB, gC]; rfl
 go_simp
 go_at_call 28
 refine (hna _ (ja0 hv (Below.drew (Below.refl _ _)))).mono ?_
 rintro e wz ⟨rfl, bz⟩
 have Bz : Hid (Below w.heap.size w wz) := Below.trans (Below.drew (Below.refl _ _)) (bz.mono (by first | exact Nat.le_refl _ | exact Bx.out.size))
 clear bz
 exact ⟨rfl, rfl, Bz.out⟩
 try go_wp2_with fail
theorem alike1_yn (ps1 ps2 : List (List Stm)) (v u x : Value) (a b c : Nat) (w : World) (hla : ps1.length ≤ maxLen) (hpa : ∀ p ∈ ps1, p.length ≤ maxLen) (hlb : ps2.length ≤ maxLen) (hpb : ∀ p ∈ ps2, p.length ≤ maxLen) (hoa : ja5 ps1 = true) (hob : ja5 ps2 = false) (hv : jb5 w v ps1) (hu : jb5 w u ps2)
 (ha : w.heap[a]? = some (.cells #[v] 26 (0, 0))) (hb : w.heap[b]? = some (.cells #[u] 26 (0, 0))) (hc : w.heap[c]? = some (.cells #[x] 29 (0, 0))) :
 Calls Tryz.prog 26 #[.pointer (some ⟨a, 0, none⟩), .pointer (some ⟨b, 0, none⟩), .pointer (some ⟨c, 0, none⟩)] w fun e w' => e = .panicked [{ v := jm0, recovered := false }] ∧ Below w.heap.size w w' := by
 have hca := fun W (hW : jb5 W v ps1) => js5 ps1 v W hla hpa hoa hW
 have hnb := fun W (hW : jb5 W u ps2) => jm9 ps2 u W hlb hpb hob hW
 have c0 := (ja4 ha).1
 have c1 := (ja4 hb).1
 have la := (Array.getElem?_eq_some_iff.1 ha).1
 have lb := (Array.getElem?_eq_some_iff.1 hb).1
 clear hoa hob ha hb
 go_enter Tryz.func26, Tryz.ntmps26
 go_wp2_with fail
 refine wp_region_held_drew (S := fun w' => w'.cell? ⟨a, 0, none⟩ = some v ∧ w'.cell? ⟨b, 0, none⟩ = some u) (by kernel_rfl) ⟨c0, c1⟩ (fun hHl => ?_)
 refine wpAnyH_take (i := 0) (oi := ?oiyn0) (v := .agg #[v]) ?_ (by kernel_rfl) (by kernel_rfl) (by kernel_rfl) ?_ ?_ hHl ?_
 rotate_left
 · simp only [gA, gB, gC]; rfl
 · exact fun _ _ _ h => h
 · exact Or.inl ⟨by kernel_rfl, fun w hSw => by obtain ⟨s0, s1⟩ := hSw; go_simp⟩
 try simp only [Act.put, gD, gE, gF]
 refine wpAnyH_take (i := 2) (oi := ?oiyn2) (v := .agg #[u]) ?_ (by kernel_rfl) (by kernel_rfl) (by kernel_rfl) ?_ ?_ hHl ?_
 rotate_left
 · simp only [gA, gB, gC]; rfl
 · exact fun _ _ _ h => h
 · exact Or.inl ⟨by kernel_rfl, fun w hSw => by obtain ⟨s0, s1⟩ := hSw; go_simp⟩
 try simp only [Act.put, gD, gE, gF]
 refine wpAnyH_ready (rs := [1]) (by kernel_rfl) (by simp) (AllReadyH.cons (o := ?ooyn1) ?_ (fun K hK => ?_) AllReadyH.nil)
 rotate_left
 · simp only [gA, gB, gC]; rfl
 go_simp
 go_at_call 28
 refine (hca _ (ja0 hv (Below.drew (Below.refl _ _)))).mono ?_
 rintro e x1 ⟨gx1, rfl, ox1, bx1⟩
 have Bx1 : Hid (Below w.heap.size w x1) := Below.trans (Below.drew (Below.refl _ _)) (bx1.mono (by first | exact Nat.le_refl _ | exact Bx.out.size))
 have Ox1 : Hid (x1.ownsRow w.heap.size 9 1 (.slice (some ⟨gx1, 0, none⟩) ps1.length ps1.length) ps1.length (jg7 ps1 ps1.length)) := jc4 ox1 (by first | exact Nat.le_refl _ | exact Bx.out.size)
 clear ox1 bx1
 try go_wp2_with fail
 refine hK.out _ _ ⟨(Bx1.out.cell la).trans c0, (Bx1.out.cell lb).trans c1⟩ (fun hHl => ?_)
 clear hK K
 try simp only [Act.put, gD, gE, gF]
 refine wpAnyH_ready (rs := [3]) (by kernel_rfl) (by simp) (AllReadyH.cons (o := ?ooyn3) ?_ (fun K hK => ?_) AllReadyH.nil)
 rotate_left
 · simp only [gA, gB, gC]; rfl
 go_simp
 go_at_call 28
 refine (hnb _ (ja0 hu (Bx1.out))).mono ?_
 rintro e wz ⟨rfl, bz⟩
 have Bz : Hid (Below w.heap.size w wz) := Below.trans (Bx1.out) (bz.mono (by first | exact Nat.le_refl _ | exact Bx1.out.size))
 clear bz
 exact ⟨rfl, rfl, Bz.out⟩
 try go_wp2_with fail
theorem cameA_yes (a b c : Value) (w : World) (P : World → Prop)
 (h : Calls Tryz.prog 26 #[a, b, c] (w.alloc (.cells #[.bool false] 4)) fun e w' => e = .returned (.tuple #[]) ∧ w'.heap[w.heap.size]? = some (.cells #[.bool false] 4 (0, 0)) ∧ P w') :
 Calls Tryz.prog 25 #[.func (.func 26) #[] #[a, b, c]] w fun e w' => e = .returned (.bool true) ∧ ∃ w1, P w1 ∧ w' = (w1.setCell ⟨w.heap.size, 0, none⟩ (.bool true)).setCell ⟨w.heap.size, 0, none⟩ (.bool true) := by
 have hmf : ∀ (fn : Fn) (first cap : Array Value) (w : World), (Instr.makeFunc fn first cap).run Tryz.prog w = .ok (.func fn first cap) w := fun _ _ _ _ => rfl
 go_enter_defers Tryz.func25, Tryz.ntmps25
 go_wp2_with fail
 go_at_call 26
 refine h.mono ?_
 rintro e w1 ⟨rfl, hB, hP⟩
 obtain ⟨c1, f1⟩ := ja4 hB
 have hB2 := jg1 hB (.bool true)
 obtain ⟨c2, f2⟩ := ja4 hB2
 have hB3 := jg1 hB2 (.bool true)
 obtain ⟨c3, f3⟩ := ja4 hB3
 have HP : Hid _ := hP
 clear hP h
 go_wp2
 refine leaves_cons (f := 53) (args := #[.pointer (some ⟨w.heap.size, 0, none⟩)]) (by simp) (by simp [go_sem]) ?_
 refine (qe3 ⟨w.heap.size, 0, none⟩ _ _ c2 f2).mono ?_
 rintro e u' w'' ⟨rfl, rfl, rfl⟩
 refine ⟨.bool true, ?_, rfl, w1, HP.out, rfl⟩
 simp [results, Tryz.results25, go_sem, c3]
theorem cameA_no (a b c : Value) (w : World) (P : World → Prop)
 (h : Calls Tryz.prog 26 #[a, b, c] (w.alloc (.cells #[.bool false] 4)) fun e w' => e = .panicked [{ v := jm0, recovered := false }] ∧ w'.heap[w.heap.size]? = some (.cells #[.bool false] 4 (0, 0)) ∧ P w') :
 Calls Tryz.prog 25 #[.func (.func 26) #[] #[a, b, c]] w fun e w' => e = .returned (.bool false) ∧ ∃ w1, P w1 ∧ w' = w1.setCell ⟨w.heap.size, 0, none⟩ (.bool false) := by
 have hmf : ∀ (fn : Fn) (first cap : Array Value) (w : World), (Instr.makeFunc fn first cap).run Tryz.prog w = .ok (.func fn first cap) w := fun _ _ _ _ => rfl
 go_enter_defers Tryz.func25, Tryz.ntmps25
 go_wp2_with fail
 go_at_call 26
 refine h.mono ?_
 rintro e w1 ⟨rfl, hB, hP⟩
 obtain ⟨c1, f1⟩ := ja4 hB
 have hB2 := jg1 hB (.bool false)
 obtain ⟨c2, f2⟩ := ja4 hB2
 have HP : Hid _ := hP
 clear hP h
 go_wp2
 refine leaves_cons (f := 53) (args := #[.pointer (some ⟨w.heap.size, 0, none⟩)]) (by simp) (by simp [go_sem]) ?_
 refine (jz0 ⟨w.heap.size, 0, none⟩ _ [] _ c1 f1).mono ?_
 rintro e u' w'' ⟨rfl, rfl, rfl⟩
 refine ⟨.bool false, ?_, rfl, w1, HP.out, rfl⟩
 simp [Leaves, settle, results, Tryz.results25, go_sem, c2]
theorem implAlike (ps1 ps2 : List (List Stm)) (v u : Value) (w : World) (hla : ps1.length ≤ maxLen) (hpa : ∀ p ∈ ps1, p.length ≤ maxLen) (hlb : ps2.length ≤ maxLen) (hpb : ∀ p ∈ ps2, p.length ≤ maxLen) (hv : jb5 w v ps1) (hu : jb5 w u ps2) :
 Calls Tryz.prog 6 #[.agg #[v], .agg #[u]] w fun e w' => ∃ y, e = .returned y ∧ OwnPl w' w.heap.size y (jl0 ps1 ps2) ∧ Below w.heap.size w w' := by
 have hmf : ∀ (fn : Fn) (first cap : Array Value) (w : World), (Instr.makeFunc fn first cap).run Tryz.prog w = .ok (.func fn first cap) w := fun _ _ _ _ => rfl
 obtain ⟨W0, hW0⟩ : ∃ W0, ((w.alloc (.cells #[v] 26)).alloc (.cells #[u] 26)).alloc (.cells #[.slice none 0 0] 29) = W0 := ⟨_, rfl⟩
 have b0 : Below w.heap.size w W0 := by rw [← hW0]; go_grown
 have s0 : W0.heap.size = w.heap.size + 3 := by rw [← hW0]; simp
 have H0 : W0.heap[w.heap.size]? = some (.cells #[v] 26 (0, 0)) := by
  rw [← hW0, ja2 (by simp <;> omega), ja2 (by simp)]; exact heap_alloc_new w _
 have H1 : W0.heap[w.heap.size + 1]? = some (.cells #[u] 26 (0, 0)) := by
  rw [← hW0, ja2 (by simp)]
  have := heap_alloc_new (w.alloc (.cells #[v] 26)) (.cells #[u] 26)
  simpa using this
 have H2 : W0.heap[w.heap.size + 1 + 1]? = some (.cells #[.slice none 0 0] 29 (0, 0)) := by
  rw [← hW0]
  have := heap_alloc_new ((w.alloc (.cells #[v] 26)).alloc (.cells #[u] 26)) (.cells #[.slice none 0 0] 29)
  simpa using this
 have bB : Below W0.heap.size W0 (W0.alloc (.cells #[.bool false] 4)) := by go_grown
 have HW0 : Hid _ := hW0
 have hvB := ja0 (ja0 hv b0) bB
 have huB := ja0 (ja0 hu b0) bB
 have G0 := (bB.block _ (by omega)).trans H0
 have G1 := (bB.block _ (by omega)).trans H1
 have G2 := (bB.block _ (by omega)).trans H2
 clear hW0
 by_cases hok : ja5 ps1 = true ∧ ja5 ps2 = true
 · obtain ⟨hoa, hob⟩ := hok
   have h1 := alike1_yes ps1 ps2 v u (.slice none 0 0) w.heap.size (w.heap.size + 1) (w.heap.size + 1 + 1) _ hla hpa hlb hpb hoa hob hvB huB G0 G1 G2
   obtain ⟨C, hC⟩ : ∃ C, jl0 ps1 ps2 = C := ⟨_, rfl⟩
   rw [hC] at h1 ⊢
   have h2 := cameA_yes _ _ _ W0 (fun w' => ∃ y, OwnPl w' (W0.heap.size + 1) y C ∧ w'.heap[w.heap.size + 1 + 1]? = some (.cells #[y] 29 (0, 0)) ∧ W0.grownBy w' (some (w.heap.size + 1 + 1))) (h1.mono (by
    rintro e w' ⟨rfl, y, o1, hc1, g1⟩
    have hz : (W0.alloc (.cells #[.bool false] 4)).heap.size = W0.heap.size + 1 := by simp
    rw [hz] at o1
    exact ⟨rfl, (g1.block _ (by omega) (by simp; omega)).trans (heap_alloc_new W0 _), y, o1, hc1, ja8 (jb3 bB _) g1⟩))
   clear h1 hoa hob hC hvB huB G0 G1 G2 hv hu
   go_enter Tryz.func6, Tryz.ntmps6
   go_wp2_with fail
   rw [HW0.out]
   clear HW0
   go_wp2_with fail
   go_at_call 25
   refine h2.mono ?_
   rintro e w2 ⟨rfl, w1, ⟨y, o1, hc1, g1⟩, rfl⟩
   have s1 := g1.size
   have o2 : OwnPl ((w1.setCell ⟨W0.heap.size, 0, none⟩ (.bool true)).setCell ⟨W0.heap.size, 0, none⟩ (.bool true)) (W0.heap.size + 1) y C := (o1.other (by simp) _).other (by simp) _
   have hc2 : ((w1.setCell ⟨W0.heap.size, 0, none⟩ (.bool true)).setCell ⟨W0.heap.size, 0, none⟩ (.bool true)).heap[w.heap.size + 1 + 1]? = some (.cells #[y] 29 (0, 0)) := (Below.heap_setCell _ _ _ _ (by simp; omega)).trans ((Below.heap_setCell _ _ _ _ (by simp; omega)).trans hc1)
   have L2 : Below w.heap.size w ((w1.setCell ⟨W0.heap.size, 0, none⟩ (.bool true)).setCell ⟨W0.heap.size, 0, none⟩ (.bool true)) := ((b0.grown g1 (by omega) (fun k hk => by have := Option.some.inj hk; omega)).setCell (by simp; omega) _).setCell (by simp; omega) _
   clear h2 o1 hc1 g1 H0 H1 H2
   generalize (w1.setCell ⟨W0.heap.size, 0, none⟩ (.bool true)).setCell ⟨W0.heap.size, 0, none⟩ (.bool true) = w2 at *
   obtain ⟨ua, um, uc, rfl⟩ := o2.slice
   obtain ⟨d0, _⟩ := ja4 hc2
   have HO : Hid (OwnPl w2 w.heap.size (.slice ua um uc) C) := o2.mono (by omega)
   have HL : Hid _ := L2
   clear o2 L2
   go_wp2
   go_ret
   exact ⟨_, rfl, HO.out, HL.out⟩
 · have hC : jl0 ps1 ps2 = [] := by
    unfold jl0
    rw [if_neg (by simpa using hok)]
   rw [hC]
   have h1 : Calls Tryz.prog 26 #[.pointer (some ⟨w.heap.size, 0, none⟩), .pointer (some ⟨w.heap.size + 1, 0, none⟩), .pointer (some ⟨w.heap.size + 1 + 1, 0, none⟩)] (W0.alloc (.cells #[.bool false] 4)) fun e w' => e = .panicked [{ v := jm0, recovered := false }] ∧ Below (W0.alloc (.cells #[.bool false] 4)).heap.size (W0.alloc (.cells #[.bool false] 4)) w' := by
    cases hoa : ja5 ps1
    · cases hob : ja5 ps2
      · exact alike1_nn ps1 ps2 v u (.slice none 0 0) _ _ _ _ hla hpa hlb hpb hoa hob hvB huB G0 G1 G2
      · exact alike1_ny ps1 ps2 v u (.slice none 0 0) _ _ _ _ hla hpa hlb hpb hoa hob hvB huB G0 G1 G2
    · cases hob : ja5 ps2
      · exact alike1_yn ps1 ps2 v u (.slice none 0 0) _ _ _ _ hla hpa hlb hpb hoa hob hvB huB G0 G1 G2
      · exact absurd ⟨hoa, hob⟩ hok
   have h2 := cameA_no _ _ _ W0 (fun w' => Below W0.heap.size W0 w') (h1.mono (by
    rintro e w' ⟨rfl, b1⟩
    have hz : W0.heap.size < (W0.alloc (.cells #[.bool false] 4)).heap.size := by simp
    exact ⟨rfl, (b1.block _ hz).trans (heap_alloc_new W0 _), jc8 bB b1 (by omega)⟩))
   clear h1 hok hC hvB huB G0 G1 G2 hv hu
   go_enter Tryz.func6, Tryz.ntmps6
   go_wp2_with fail
   rw [HW0.out]
   clear HW0
   go_wp2_with fail
   go_at_call 25
   refine h2.mono ?_
   rintro e w2 ⟨rfl, w1, b1, rfl⟩
   have L1 : Below W0.heap.size W0 (w1.setCell ⟨W0.heap.size, 0, none⟩ (.bool false)) := b1.setCell (by simp) _
   have L2 : Hid (Below w.heap.size w (w1.setCell ⟨W0.heap.size, 0, none⟩ (.bool false))) := jc8 b0 L1 (by omega)
   clear h2 b1 L1
   generalize w1.setCell ⟨W0.heap.size, 0, none⟩ (.bool false) = w2 at *
   go_wp2
   go_ret
   exact ⟨_, rfl, nilP _ _, L2.out⟩
end Go.Proofs.YtldagpfeaabcdaaGreatDoor
