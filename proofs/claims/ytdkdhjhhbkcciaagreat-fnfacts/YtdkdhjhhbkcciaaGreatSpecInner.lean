/-
 Chapter 10, the specification's side: l10Inner.
-/
import Derived.Test.YtdkdhjhhbkcciaaGreatG00Put
import Derived.Test.YtdkdhjhhbkcciaaGreatG22TabSt
namespace Go.Proofs.YtdkdhjhhbkcciaaGreat
open Go.RowKit
set_option linter.unusedVariables false
set_option linter.unusedSimpArgs false
set_option maxHeartbeats 4000000
set_option maxRecDepth 20000
theorem effN_smalls' {ss : List Stm} {c : Int} {T : List (List Int)} (hs : ∀ s ∈ ss, CanS T.length s) (hT : GoodN T.length T) (hc : c = 1 ∨ c = 2) {i : Nat} (hi : i < ss.length) : Smalls (effN c T ss i) := by
 rw [effN_eq hi]
 exact effL_smalls hc hT (hs _ (List.getElem_mem hi))
def ag10 : Value → Nat
 | .bool true => 1
 | _ => 0
theorem l10Inner (ss : List Stm) (c : Int) (T : List (List Int)) (v tv : Value) (w : World) (hc : c = 1 ∨ c = 2) (hp : procOk ss = true) (hs : ∀ s ∈ ss, CanS T.length s) (hT : GoodN T.length T) (hv : Reads3 w v ss) (ht : ReadsSS w tv T) :
 Calls Tryz.prog 56 #[.agg #[v], .int .i64 c, tv] w fun e w' => ∃ R a ua, e = .returned a ∧ R.length = ss.length ∧ IsInner (effN c T ss) ss R ∧ OwnSS w' w.heap.size a ua R ∧ Below w.heap.size w w' := by
 obtain ⟨i0, hi0, hz0, hz1, hz2⟩ := info_parts infoInt
 obtain ⟨i1, hj, hy0, hy1, hy2⟩ := info_parts infoSlice
 obtain ⟨hpos, h12, _⟩ := procOk_parts hp
 have hv3 := hv
 obtain ⟨ao, cap, rfl, hcell⟩ := hv
 obtain ⟨W0, hW0⟩ : ∃ W0, (w.alloc (.cells #[.slice ao ss.length cap] 46)).alloc (.cells #[] 39) = W0 := ⟨_, rfl⟩
 have hb0 : Below w.heap.size w W0 := by rw [← hW0]; go_grown
 have S0 : LS (.slice ao ss.length cap) w (.slice (some ⟨w.heap.size + 1, 0, none⟩) 0 0) [] [] W0 := by
  refine ⟨?_, hb0, ?_⟩
  · have := made0S (w.alloc (.cells #[.slice ao ss.length cap] 46))
    have z : (w.alloc (.cells #[.slice ao ss.length cap] 46)).heap.size = w.heap.size + 1 := by simp
    rw [hW0, z] at this
    exact this
  · rw [← hW0, old_block (by simp)]; exact heap_alloc_new w _
 have HW : Hid _ := hW0
 clear hW0 hb0
 have hb8 : i0.bytes * 7 ≤ 281474976710656 := by rw [hz2]; omega
 have hmx : (7 : Nat) ≤ maxLen := by unfold maxLen; omega
 go_enter Tryz.func56, Tryz.ntmps56
 go_wp2_with fail
 rw [HW.out]
 clear HW
 go_loopw [7, 8] (fun o i wr => ∃ (k : Nat) (us : List Value), k ≤ ss.length ∧ i = .int .i64 k ∧ LS (.slice ao ss.length cap) w o us (List.replicate k zero7) wr) (fun _ i _ => ss.length - (intOf i).toNat)
 case atStart => exact ⟨0, [], Nat.zero_le _, rfl, S0⟩
 case round =>
  obtain ⟨k, us, hk, rfl, S⟩ := hrel
  clear S0
  obtain ⟨c0, f0⟩ := one_cell S.p
  have HS : Hid _ := S
  clear S
  by_cases hlt : k < ss.length
  · have hlt' : (k : Int) < (ss.length : Int) := by omega
    have hws : w.heap.size + 1 ≤ wr.heap.size := by have := HS.out.bl.size; have := (Array.getElem?_eq_some_iff.1 HS.out.p).1; omega
    have hlen : (List.replicate k zero7).length = k := List.length_replicate
    go_wp2_with (first
     | (at_make; refine wpList_make_full _ rfl _ _ 39 rfl (w.heap.size + 1) 2 i0 (.int .i64 0) 1 Tryz.underlying39 hi0 hz0 hz1 .i64 .i64 7 7 7 rfl rfl rfl rfl hb8 hmx hws ?_; intro w6 own6 grow6; have S6 : Hid _ := HS.out.grow grow6; have hone : ∀ y ∈ [Value.slice (some ⟨wr.heap.size, 0, none⟩) 7 7], y.oneCell' = true := (by simp [Value.oneCell']); have hm6 : w.heap.size + 1 ≤ w6.heap.size := Nat.le_trans hws grow6.size; rw [made7] at own6; have O6 : Hid (w6.ownsRow (w.heap.size + 1) 2 1 (.slice (some ⟨wr.heap.size, 0, none⟩) 7 7) zero7.length (ints zero7)) := own6; clear own6 grow6)
     | (at_builtin; refine wpList_append_own _ rfl (.tmp 23) (.tmp 25) 29 rfl (w.heap.size + 1) 39 i1 (.slice none 0 0) 1 24 Tryz.underlying29 hj hy0 hy1 hy2 rfl (by decide) _ _ _ rfl (S6.out.o.row.alloc _) ⟨w6.heap.size, 0, none⟩ 1 _ [.slice (some ⟨wr.heap.size, 0, none⟩) 7 7] rfl rfl (cell_oneV w6 _ _) hone (by rw [hlen]; unfold maxLen; omega) (by rw [hlen]; omega) (by simp; omega) ?_; intro v7 w7 own7 grow7 _; have S7 : Hid _ := LS.app (xs := zero7) (S6.out.below (by go_grown)) (own_kept O6.out (by go_grown)) own7 grow7; clear own7 grow7 O6 S6)
     | go_in)
    go_roundw
    case rel =>
     have h7 := S7.out
     rw [← List.replicate_succ'] at h7
     exact ⟨k + 1, _, by omega, by go_num, h7⟩
    case measure => simp [intOf]; omega
  · have hkk : k = ss.length := by omega
    subst hkk
    have HS := HS.out
    obtain ⟨g, cp, rfl⟩ : ∃ g cp, u7 = Value.slice (some ⟨g, 0, none⟩) ss.length cp := by
     rcases own_shape HS.o.row with ⟨_, e, _⟩ | ⟨g, cp, e, _⟩
     · rw [List.length_replicate] at e; omega
     · exact ⟨g, cp, by rw [e, List.length_replicate]⟩
    obtain ⟨u0, cu0, fu0, _⟩ := HS.at (by simp) (j := 0) (by omega)
    have hgl : g < wr.heap.size := World.block_lt_of_cell? wr _ cu0
    have hpos' : (0 : Int) < (ss.length : Int) := by omega
    have HS1 : Hid _ := HS
    clear HS hlt
    go_wp2_with fail
    go_at_call 87
    refine (specUnit wr).mono ?_
    rintro e w2 ⟨a2, rfl, o2, b2⟩
    obtain ⟨g2, cp2, rfl⟩ := own_form o2 (by decide)
    have S2 := HS1.out.below b2
    obtain ⟨u2, cu2, fu2, _⟩ := S2.at (by simp) (j := 0) (by omega)
    have hws2 : w.heap.size + 1 ≤ wr.heap.size := by have := HS1.out.bl.size; have := (Array.getElem?_eq_some_iff.1 HS1.out.p).1; omega
    have S3 : Hid _ := LS.put' (by simp) S2 (own_mono o2 hws2) 0
    have I3 : Hid _ := InnS.begin (E := effN c T ss) hpos
    clear HS1 S2 o2 b2 cu0 fu0
    go_wp2_with fail
    clear cu2 fu2
    generalize w2.setCell ⟨g, 0, none⟩ _ = w3 at *
    generalize (List.replicate ss.length zero7).set 0 unitL = R3 at *
    go_loopw [9] (fun ag wr => ∃ (R : List (List Int)) (us : List Value) (b : Bool), LS (.slice ao ss.length cap) w (.slice (some ⟨g, 0, none⟩) ss.length cp) us R wr ∧ InnS (effN c T ss) ss R ∧ ag = .bool b ∧ (b = false → IsInner (effN c T ss) ss R)) (fun ag wr => 2 * roomV wr (.slice (some ⟨g, 0, none⟩) ss.length cp) + ag10 ag)
    case atStart => exact ⟨R3, _, true, S3.out, I3.out, rfl, by simp⟩
    case round =>
     clear S3 I3 hgl
     obtain ⟨R0, us0, b0, S0, I0, rfl, hfin⟩ := hrel
     cases b0 with
     | false =>
      have hI := hfin rfl
      have HS : Hid _ := S0
      have hlen := I0.len
      clear hfin I0 S0
      go_wp2
      go_ret
      exact ⟨R0, _, us0, rfl, hlen, hI, HS.out.o.mono (by omega), HS.out.bl⟩
     | true =>
      have hlen0 := I0.len
      have hM0 : Hid (roomV wr (.slice (some ⟨g, 0, none⟩) ss.length cp) = roomT R0) := by
       have h := S0.o.reads
       exact roomV_eq h
      have HS0 : Hid _ := S0
      have HI0 : Hid _ := I0
      obtain ⟨wr0, hwr0⟩ : ∃ z, z = wr := ⟨_, rfl⟩
      subst hwr0
      clear S0 I0 hfin hlen0
      go_wp2_with fail
      go_loopw [9, 10] (fun ag iv wr => ∃ (i : Nat) (R : List (List Int)) (us : List Value) (b : Bool), i ≤ ss.length ∧ iv = .int .i64 i ∧ LS (.slice ao ss.length cap) w (.slice (some ⟨g, 0, none⟩) ss.length cp) us R wr ∧ Pss (effN c T ss) ss R0 i b R ∧ ag = .bool b) (fun _ iv _ => ss.length - (intOf iv).toNat)
      case atStart => exact ⟨0, R0, us0, false, Nat.zero_le _, rfl, HS0.out, Pss.begin HI0.out, rfl⟩
      case round =>
       obtain ⟨i, R, us, b, hi, rfl, S, P, rfl⟩ := hrel
       have HS : Hid _ := S
       have HP : Hid _ := P
       obtain ⟨c0, f0⟩ := one_cell S.p
       by_cases hlt : i < ss.length
       · have hlt' : (i : Int) < (ss.length : Int) := by omega
         obtain ⟨ui, cui, fui, hui⟩ := S.at P.inn.len (j := i) hlt
         obtain ⟨gs, off, hao, k0, k1, k2⟩ := hcell i ss[i] (by simp [hlt])
         subst hao
         have M0 := S.bl
         have k0 := (M0.cell (World.block_lt_of_cell? w _ k0)).trans k0
         have k1 := (M0.cell (World.block_lt_of_cell? w _ k1)).trans k1
         have k2 := (M0.cell (World.block_lt_of_cell? w _ k2)).trans k2
         clear S P
         have heS := effN_smalls' hs hT hc hlt
         have hgi := HP.out.inn.good i hlt
         have hen : effN c T ss i = effL c T ss[i] := effN_eq hlt
         have heff := fun W (hW : Below wr.heap.size wr W) => l10Effect c T ss[i] tv W hc (hs _ (List.getElem_mem hlt)) hT (readsSS_below (readsSS_below ht M0) hW)
         rw [← hen] at heff
         have zp : w.heap.size < wr.heap.size := (Array.getElem?_eq_some_iff.1 HS.out.p).1
         have zg : g < wr.heap.size := World.block_lt_of_cell? wr _ cui
         have zs : gs < wr.heap.size := World.block_lt_of_cell? wr _ k0
         have HG : Hid _ := HP.out.inn.goes hlt heS
         clear hen
         go_wp2_with fail
         refine wp_region_held_drew (S := (fun w' => w'.cell? ⟨w.heap.size, 0, none⟩ = some (.slice (some ⟨gs, off, none⟩) ss.length cap) ∧ w'.cell? ⟨g, i, none⟩ = some ui ∧ w'.cell? ⟨gs, off + i * 3, none⟩ = some (.int .i64 ss[i].k) ∧ w'.cell? ⟨gs, off + i * 3 + 1, none⟩ = some (.int .i64 ss[i].x) ∧ w'.cell? ⟨gs, off + i * 3 + 2, none⟩ = some (.int .i64 ss[i].y))) (by kernel_rfl) ⟨c0, cui, k0, k1, k2⟩ (fun hHeld => ?_)
         refine wpAnyH_take (i := 0) (oi := ?oir0) (v := .slice (some ⟨g, 0, none⟩) ss.length cp) ?hir0 (by kernel_rfl) (by kernel_rfl) (by kernel_rfl) ?hqr0 ?hyr0 hHeld ?hrr0
         case hir0 =>
          simp only [gA, gB, gC]
          rfl
         case hqr0 => exact fun _ _ _ h => h
         case hyr0 => exact Or.inl ⟨by kernel_rfl, fun w hSw => by go_simp⟩
         try simp only [Act.put, gD, gE, gF]
         refine wpAnyH_take (i := 1) (oi := ?oir1) (v := .int .i64 (i : Int)) ?hir1 (by kernel_rfl) (by kernel_rfl) (by kernel_rfl) ?hqr1 ?hyr1 hHeld ?hrr1
         case hir1 =>
          simp only [gA, gB, gC]
          rfl
         case hqr1 => exact fun _ _ _ h => h
         case hyr1 => exact Or.inl ⟨by kernel_rfl, fun w hSw => by go_simp⟩
         try simp only [Act.put, gD, gE, gF]
         refine wpAnyH_take (i := 2) (oi := ?oir2) (v := .pointer (some ⟨g, i, none⟩)) ?hir2 (by kernel_rfl) (by kernel_rfl) (by kernel_rfl) ?hqr2 ?hyr2 hHeld ?hrr2
         case hir2 =>
          simp only [gA, gB, gC]
          rfl
         case hqr2 => exact fun _ _ _ h => h
         case hyr2 => exact Or.inl ⟨by kernel_rfl, fun w hSw => by go_simp⟩
         try simp only [Act.put, gD, gE, gF]
         refine wpAnyH_take (i := 3) (oi := ?oir3) (v := ui) ?hir3 (by kernel_rfl) (by kernel_rfl) (by kernel_rfl) ?hqr3 ?hyr3 hHeld ?hrr3
         case hir3 =>
          simp only [gA, gB, gC]
          rfl
         case hqr3 => exact fun _ _ _ h => h
         case hyr3 => exact Or.inl ⟨by kernel_rfl, fun w hSw => by obtain ⟨s0, s1, s2, s3, s4⟩ := hSw; go_simp⟩
         try simp only [Act.put, gD, gE, gF]
         refine wpAnyH_take (i := 4) (oi := ?oir4) (v := .int .i64 c) ?hir4 (by kernel_rfl) (by kernel_rfl) (by kernel_rfl) ?hqr4 ?hyr4 hHeld ?hrr4
         case hir4 =>
          simp only [gA, gB, gC]
          rfl
         case hqr4 => exact fun _ _ _ h => h
         case hyr4 => exact Or.inl ⟨by kernel_rfl, fun w hSw => by go_simp⟩
         try simp only [Act.put, gD, gE, gF]
         refine wpAnyH_take (i := 5) (oi := ?oir5) (v := .pointer (some ⟨w.heap.size, 0, none⟩)) ?hir5 (by kernel_rfl) (by kernel_rfl) (by kernel_rfl) ?hqr5 ?hyr5 hHeld ?hrr5
         case hir5 =>
          simp only [gA, gB, gC]
          rfl
         case hqr5 => exact fun _ _ _ h => h
         case hyr5 => exact Or.inl ⟨by kernel_rfl, fun w hSw => by go_simp⟩
         try simp only [Act.put, gD, gE, gF]
         refine wpAnyH_take (i := 6) (oi := ?oir6) (v := .slice (some ⟨gs, off, none⟩) ss.length cap) ?hir6 (by kernel_rfl) (by kernel_rfl) (by kernel_rfl) ?hqr6 ?hyr6 hHeld ?hrr6
         case hir6 =>
          simp only [gA, gB, gC]
          rfl
         case hqr6 => exact fun _ _ _ h => h
         case hyr6 => exact Or.inl ⟨by kernel_rfl, fun w hSw => by obtain ⟨s0, s1, s2, s3, s4⟩ := hSw; go_simp⟩
         try simp only [Act.put, gD, gE, gF]
         refine wpAnyH_take (i := 7) (oi := ?oir7) (v := .int .i64 (i : Int)) ?hir7 (by kernel_rfl) (by kernel_rfl) (by kernel_rfl) ?hqr7 ?hyr7 hHeld ?hrr7
         case hir7 =>
          simp only [gA, gB, gC]
          rfl
         case hqr7 => exact fun _ _ _ h => h
         case hyr7 => exact Or.inl ⟨by kernel_rfl, fun w hSw => by go_simp⟩
         try simp only [Act.put, gD, gE, gF]
         refine wpAnyH_take (i := 8) (oi := ?oir8) (v := .pointer (some ⟨gs, off + i * 3, none⟩)) ?hir8 (by kernel_rfl) (by kernel_rfl) (by kernel_rfl) ?hqr8 ?hyr8 hHeld ?hrr8
         case hir8 =>
          simp only [gA, gB, gC]
          rfl
         case hqr8 => exact fun _ _ _ h => h
         case hyr8 => exact Or.inl ⟨by kernel_rfl, fun w hSw => by go_simp⟩
         try simp only [Act.put, gD, gE, gF]
         refine wpAnyH_take (i := 9) (oi := ?oir9) (v := .agg #[.int .i64 ss[i].k, .int .i64 ss[i].x, .int .i64 ss[i].y]) ?hir9 (by kernel_rfl) (by kernel_rfl) (by kernel_rfl) ?hqr9 ?hyr9 hHeld ?hrr9
         case hir9 =>
          simp only [gA, gB, gC]
          rfl
         case hqr9 => exact fun _ _ _ h => h
         case hyr9 => exact Or.inl ⟨by kernel_rfl, fun w hSw => by obtain ⟨s0, s1, s2, s3, s4⟩ := hSw; go_simp⟩
         try simp only [Act.put, gD, gE, gF]
         refine wpAnyH_take (i := 10) (oi := ?oir10) (v := tv) ?hir10 (by kernel_rfl) (by kernel_rfl) (by kernel_rfl) ?hqr10 ?hyr10 hHeld ?hrr10
         case hir10 =>
          simp only [gA, gB, gC]
          rfl
         case hqr10 => exact fun _ _ _ h => h
         case hyr10 => exact Or.inl ⟨by kernel_rfl, fun w hSw => by go_simp⟩
         try simp only [Act.put, gD, gE, gF]
         refine wpAnyH_ready (rs := [11]) (by kernel_rfl) (by simp) ?_
         refine AllReadyH.cons (o := ?oor11) ?hor11 (fun K hK => ?_) AllReadyH.nil
         case hor11 =>
          simp only [gA, gB, gC]
          rfl
         go_simp
         go_at_call 89
         refine (heff _ (by go_grown)).mono ?_
         rintro e w4 ⟨a4, rfl, o4, b4⟩
         have L4 : Below wr.heap.size wr w4 := Below.trans (by go_grown) b4
         obtain ⟨q4, -⟩ := bcell L4
         go_wp2_with fail
         refine hK.out _ _ ⟨(q4 _ _ zp).trans c0, (q4 _ _ zg).trans cui, (q4 _ _ zs).trans k0, (q4 _ _ zs).trans k1, (q4 _ _ zs).trans k2⟩ (fun hHeld => ?_)
         clear hK K
         try simp only [Act.put, gD, gE, gF]
         refine wpAnyH_ready (rs := [12]) (by kernel_rfl) (by simp) ?_
         refine AllReadyH.cons (o := ?oor12) ?hor12 (fun K hK => ?_) AllReadyH.nil
         case hor12 =>
          simp only [gA, gB, gC]
          rfl
         go_simp
         go_at_call 88
         refine (l6Compose _ _ ui a4 w4 hgi heS (reads_below hui L4) (reads_own o4)).mono ?_
         rintro e w5 ⟨a5, rfl, o5, b5⟩
         have L5 := L4.trans (b5.mono L4.size)
         obtain ⟨q5, -⟩ := bcell L5
         go_wp2_with fail
         refine hK.out _ _ ⟨(q5 _ _ zp).trans c0, (q5 _ _ zg).trans cui, (q5 _ _ zs).trans k0, (q5 _ _ zs).trans k1, (q5 _ _ zs).trans k2⟩ (fun hHeld => ?_)
         clear hK K
         try simp only [Act.put, gD, gE, gF]
         refine wpAnyH_take (i := 13) (oi := ?oir13) (v := a5) ?hir13 (by kernel_rfl) (by kernel_rfl) (by kernel_rfl) ?hqr13 ?hyr13 hHeld ?hrr13
         case hir13 =>
          simp only [gA, gB, gC]
          rfl
         case hqr13 => exact fun _ _ _ h => h
         case hyr13 => exact Or.inl ⟨by kernel_rfl, fun w hSw => by go_simp⟩
         try simp only [Act.put, gD, gE, gF]
         refine wpAnyH_done (by kernel_rfl) ?_ _
         have S5 := HS.out.below L5
         obtain ⟨c5, f5⟩ := one_cell S5.p
         have hnx := l4Next ss i _ w5 hp hlt (reads3_below hv3 S5.bl)
         have hAl := nextsS_length ss[i] i
         have hAx := nextsS_in hp hlt
         have HPn : Hid (∀ b R', Pss (effN c T ss) ss R0 i b R' → (∀ x ∈ nextsS ss[i] i, SubR (comp (R.getD i []) (effN c T ss i)) (R'.getD x.toNat [])) → Pss (effN c T ss) ss R0 (i + 1) b R') := fun b R' h hd => h.next hlt HI0.out.good heS HP.out.inn.good HP.out.sub hd
         have hrS := comp_smalls hgi heS
         have hrl := hrS.1
         rw [hrl] at o5
         have O5 : Hid (w5.ownsRow (w.heap.size + 1) 2 1 a5 7 (ints (comp (R.getD i []) (effN c T ss i)))) := own_mono o5 (by have := L4.size; omega)
         have HS5 : Hid _ := S5
         obtain ⟨g5, cp5, rfl⟩ := own_form o5 (by omega)
         clear o5 hrl S5 heff k0 k1 k2 q4 q5 o4 b4 b5 c0 f0 hgi cui fui hui
         generalize comp (R.getD i []) (effN c T ss i) = r at *
         generalize hA : nextsS ss[i] i = A at *
         have HA : Hid _ := hA
         clear hA
         go_wp2_with fail
         go_at_call 90
         refine hnx.mono ?_
         rintro e w6 ⟨gl, cpl, rfl, o6, b6⟩
         have s5 : w.heap.size + 1 ≤ w5.heap.size := by have := L5.size; omega
         have S6 : Hid _ := HS5.out.below b6
         have O6 : Hid (w6.ownsRow (w.heap.size + 1) 2 1 (.slice (some ⟨g5, 0, none⟩) 7 cp5) 7 (ints r)) := own_kept O5.out b6
         have N6 : Hid (w6.ownsRow (w.heap.size + 1) 2 1 (.slice (some ⟨gl, 0, none⟩) A.length cpl) A.length (ints A)) := own_mono o6 s5
         clear o6 O5 HS5 hnx b6 c5 f5
         go_wp2_with fail
         go_loopw [9, 13] (fun ag kv wr => ∃ (k : Nat) (R1 : List (List Int)) (us1 : List Value) (b1 : Bool), k ≤ A.length ∧ kv = .int .i64 k ∧ LS (.slice (some ⟨gs, off, none⟩) ss.length cap) w (.slice (some ⟨g, 0, none⟩) ss.length cp) us1 R1 wr ∧ Pss (effN c T ss) ss R0 i b1 R1 ∧ ag = .bool b1 ∧ wr.ownsRow (w.heap.size + 1) 2 1 (.slice (some ⟨g5, 0, none⟩) 7 cp5) 7 (ints r) ∧ wr.ownsRow (w.heap.size + 1) 2 1 (.slice (some ⟨gl, 0, none⟩) A.length cpl) A.length (ints A) ∧ (∀ q, q < k → SubR r (R1.getD (A.getD q 0).toNat []))) (fun _ kv _ => A.length - (intOf kv).toNat)
         case atStart => exact ⟨0, R, us, b, Nat.zero_le _, rfl, S6.out, HP.out, rfl, O6.out, N6.out, fun q h => absurd h (by omega)⟩
         case round =>
          obtain ⟨k, R1, us1, b1, hk, rfl, S1, P1, rfl, O1, N1, hd1⟩ := hrel
          clear S6 O6 N6
          by_cases hkl : k < A.length
          · have hkl' : (k : Int) < (A.length : Int) := by omega
            obtain ⟨x, hx, hxl⟩ := hAx A[k] (List.getElem_mem hkl)
            have cl : wr.cell? ⟨gl, k, none⟩ = some (.int .i64 (x : Int)) := by
             rw [N1.cellAt k (by omega)]
             simp [ints, hkl, hx]
            have hAk : A.getD k 0 = (x : Int) := by simp [List.getD, hkl, hx]
            have HX : Hid (A[k] = (x : Int)) := hx
            obtain ⟨ux, cux, fux, hux⟩ := S1.at P1.inn.len (j := x) hxl
            have hxl' : (x : Int) < (ss.length : Int) := by omega
            have hx0 : (0 : Int) ≤ (x : Int) := by omega
            have HS1 : Hid _ := S1
            have HP1 : Hid _ := P1
            have HO1 : Hid (wr.ownsRow (w.heap.size + 1) 2 1 (.slice (some ⟨g5, 0, none⟩) 7 cp5) 7 (ints r)) := O1
            have HN1 : Hid (wr.ownsRow (w.heap.size + 1) 2 1 (.slice (some ⟨gl, 0, none⟩) A.length cpl) A.length (ints A)) := N1
            clear S1 P1 O1 N1
            have gx := HP1.out.inn.good x hxl
            have hjo := l6Join (R1.getD x []) r ux _ wr gx hrS hux (reads_own HO1.out)
            have hjS := joi_smalls gx hrS
            rw [hjS.1] at hjo
            go_wp2_with fail
            go_at_call 91
            refine hjo.mono ?_
            rintro e w7 ⟨aj, rfl, o7, b7⟩
            obtain ⟨gj, cpj, rfl⟩ := own_form o7 (by omega)
            have hli := l1Like (joi (R1.getD x []) r) (R1.getD x []) _ ux w7 (by rw [hjS.1]; exact hmx) (by rw [gx.1]; exact hmx) (reads_own o7) (reads_below hux b7)
            have cl7 : w7.cell? ⟨gl, k, none⟩ = some (.int .i64 (x : Int)) := (b7.cell (World.block_lt_of_cell? wr _ cl)).trans cl
            have cux7 : w7.cell? ⟨g, x, none⟩ = some ux := (b7.cell (World.block_lt_of_cell? wr _ cux)).trans cux
            have hs7 : w.heap.size + 1 ≤ wr.heap.size := by have := HS1.out.bl.size; have := (Array.getElem?_eq_some_iff.1 HS1.out.p).1; omega
            have O7 : Hid (w7.ownsRow (w.heap.size + 1) 2 1 (.slice (some ⟨gj, 0, none⟩) 7 cpj) 7 (ints (joi (R1.getD x []) r))) := own_mono o7 hs7
            clear o7 hjo cl cux fux hux
            go_wp2_with fail
            go_at_call 92
            refine hli.mono ?_
            rintro e w8 ⟨rfl, b8⟩
            clear hli
            have L8 := b7.trans (b8.mono b7.size)
            have cl8 : w8.cell? ⟨gl, k, none⟩ = some (.int .i64 (x : Int)) := (b8.cell (World.block_lt_of_cell? w7 _ cl7)).trans cl7
            have S8 := HS1.out.below L8
            have O8 := own_kept O7.out b8
            have r8 := own_kept HO1.out L8
            have n8 := own_kept HN1.out L8
            obtain ⟨ux8, cux8, fux8, _⟩ := S8.at HP1.out.inn.len (j := x) hxl
            have HS8 : Hid _ := S8
            have HO8 : Hid (w8.ownsRow (w.heap.size + 1) 2 1 (.slice (some ⟨gj, 0, none⟩) 7 cpj) 7 (ints (joi (R1.getD x []) r))) := O8
            have Hr8 : Hid (w8.ownsRow (w.heap.size + 1) 2 1 (.slice (some ⟨g5, 0, none⟩) 7 cp5) 7 (ints r)) := r8
            have Hn8 : Hid (w8.ownsRow (w.heap.size + 1) 2 1 (.slice (some ⟨gl, 0, none⟩) A.length cpl) A.length (ints A)) := n8
            have HD1 : Hid _ := hd1
            have HAk : Hid _ := hAk
            clear S8 O8 r8 n8 cl7 cux7 O7 HS1 HO1 HN1 hd1 hAk hx
            by_cases hq : joi (R1.getD x []) r = R1.getD x []
            · have hdq : decide (joi (R1.getD x []) r = R1.getD x []) = true := decide_eq_true hq
              rw [hdq]
              have hsub := sub_of_joi gx hrS hq
              have HQ : Hid _ := hsub
              clear hq hdq hsub hjS gx
              go_wp2
              go_roundw
              case rel =>
               refine ⟨k + 1, R1, us1, b1, by omega, by go_num, HS8.out, HP1.out, rfl, Hr8.out, Hn8.out, fun q hq => ?_⟩
               by_cases e : q = k
               · subst e; rw [HAk.out]; exact HQ.out
               · exact HD1.out q (by omega)
              case measure => simp [intOf]; omega
            · have hdq : decide (joi (R1.getD x []) r = R1.getD x []) = false := decide_eq_false hq
              rw [hdq]
              have hput := HP1.out.put hxl hrS (fun C hC hc => by
               have := HG.out (A[k]) (List.getElem_mem hkl) C hC hc
               rw [HX.out] at this
               simpa using this) hq
              have HPT : Hid _ := hput
              have hx1 : x < R1.length := by rw [HP1.out.inn.len]; exact hxl
              have HSB : Hid (SubN ss.length R1 (R1.set x (joi (R1.getD x []) r)) ∧ SubR r ((R1.set x (joi (R1.getD x []) r)).getD x [])) := ⟨SubN.set hx1 (joi_l gx hrS), by rw [getD_set hx1, if_pos rfl]; exact joi_r gx hrS⟩
              have S9 : Hid _ := LS.put' HP1.out.inn.len HS8.out (xs := joi (R1.getD x []) r) (by rw [hjS.1]; exact HO8.out) x
              have r9 : Hid ((w8.setCell ⟨g, x, none⟩ (.slice (some ⟨gj, 0, none⟩) 7 cpj)).ownsRow (w.heap.size + 1) 2 1 (.slice (some ⟨g5, 0, none⟩) 7 cp5) 7 (ints r)) := by
               have h := HS8.out.o.row
               rw [HP1.out.inn.len] at h
               exact own_put Hr8.out h x _
              have n9 : Hid ((w8.setCell ⟨g, x, none⟩ (.slice (some ⟨gj, 0, none⟩) 7 cpj)).ownsRow (w.heap.size + 1) 2 1 (.slice (some ⟨gl, 0, none⟩) A.length cpl) A.length (ints A)) := by
               have h := HS8.out.o.row
               rw [HP1.out.inn.len] at h
               exact own_put Hn8.out h x _
              clear hq hdq hput hjS gx HO8 Hr8 Hn8 HS8
              go_wp2
              go_roundw
              case rel =>
               refine ⟨k + 1, _, _, true, by omega, by go_num, S9.out, HPT.out, rfl, r9.out, n9.out, fun q hq => ?_⟩
               by_cases e : q = k
               · subst e; rw [HAk.out]; exact HSB.out.2
               · have h1 := HD1.out q (by omega)
                 have hqA : q < A.length := by omega
                 obtain ⟨z, hz, hzl⟩ := hAx A[q] (List.getElem_mem hqA)
                 have hz' : A.getD q 0 = (z : Int) := by simp [List.getD, hqA, hz]
                 rw [hz'] at h1 ⊢
                 exact h1.trans (HSB.out.1 z hzl)
              case measure => simp [intOf]; omega
          · have hkk : k = A.length := by omega
            subst hkk
            have hnext : Hid (Pss (effN c T ss) ss R0 (i + 1) b1 R1) := by
             refine HPn.out b1 R1 P1 (fun x hx => ?_)
             obtain ⟨q, hq, rfl⟩ := List.getElem_of_mem hx
             have := hd1 q hq
             have e : A.getD q 0 = A[q] := by simp [List.getD, hq]
             rwa [e] at this
            have HS1 : Hid _ := S1
            clear P1 S1 O1 N1 hd1
            go_wp2
            go_roundw
            case rel => exact ⟨i + 1, R1, us1, b1, by omega, by go_num, HS1.out, hnext.out, rfl⟩
            case measure => simp [intOf]; omega
       · have hii : i = ss.length := by omega
         subst hii
         have hM1 : Hid (roomV wr (.slice (some ⟨g, 0, none⟩) ss.length cp) = roomT R) := by
          have h := HS.out.o.reads
          exact roomV_eq h
         clear S P
         go_wp2
         go_roundw
         case rel => exact ⟨R, us, b, HS.out, HP.out.inn, rfl, fun hb => HP.out.last hb⟩
         case measure =>
          rw [hM1.out, hM0.out]
          rcases HP.out.st with ⟨e, e2⟩ | ⟨e, e2⟩
          · rw [e, e2]; simp [ag10]
          · rw [e]; simp [ag10]; omega
end Go.Proofs.YtdkdhjhhbkcciaaGreat
