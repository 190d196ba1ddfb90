/-
 Chapter 11, the program's side: Facts.
-/
import Derived.Test.YtnjbihfceckpfaaG00Stmt
import Derived.Test.YtnjbihfceckpfaaImplFind
import Derived.Test.YtnjbihfceckpfaaSpecFacts
namespace Go.Proofs.Ytnjbihfceckpfaa
open Go.RowKit
set_option linter.unusedVariables false
set_option linter.unusedSimpArgs false
set_option maxHeartbeats 4000000
set_option maxRecDepth 20000

section
variable {w w6 w7 : World} {base g n cap i : Nat} {us : List Value} {X : List (List Int)} {ui : Value} {xs ys : List Int}

/-- One row has grown, and is put in its place. -/
theorem facts_grow {g7 cp7 H k : Nat} (h : OwnSS w base (.slice (some ⟨g, 0, none⟩) n cap) us X) (ha : ApartSS us) (hi : i < X.length) (hu : us[i]? = some ui) (ho : w.ownsRow base 2 1 ui k (ints xs)) (hb : Below w.heap.size w w6)
 (own7 : w7.ownsRow base 2 1 (.slice (some ⟨g7, 0, none⟩) (k + 1) cp7) (k + 1) (ints ys)) (grow7 : w6.grownBy w7 ui.ownBlock) (hlo : ui.ownBlock = some g7 ∨ g7 = H) (hH : w6.heap.size = H) (hy : ys.length = k + 1) :
 OwnSS (w7.setCell ⟨g, i, none⟩ (.slice (some ⟨g7, 0, none⟩) (k + 1) cp7)) base (.slice (some ⟨g, 0, none⟩) n cap) (us.set i (.slice (some ⟨g7, 0, none⟩) (k + 1) cp7)) (X.set i ys) ∧ ApartSS (us.set i (.slice (some ⟨g7, 0, none⟩) (k + 1) cp7)) := by
 have r6 := own_kept h.row hb
 have o6 := own_kept ho hb
 have hgk : ∀ k', ui.ownBlock = some k' → k' ≠ g := fun k' hk e => row_kind o6 r6 (by decide) hk (by rw [e]; rfl)
 have r7 : w7.ownsRow base 26 1 (.slice (some ⟨g, 0, none⟩) n cap) X.length us := own_same r6 (fun q hq => grow7.block q (r6.lt q hq).2 (fun e => hgk q e.symm (by cases hq; rfl)))
 have hn : X.length = n := by
  rcases h.row.2 with ⟨e, _⟩ | ⟨g', c', cur, e, _⟩
  · cases e
  · cases e; rfl
 subst hn
 have hst := r7.stored i (.slice (some ⟨g7, 0, none⟩) (k + 1) cp7)
 have keep : ∀ (x : Value) (m : Nat) (zs : List Value), w7.ownsRow base 2 1 x m zs → (w7.setCell ⟨g, i, none⟩ (.slice (some ⟨g7, 0, none⟩) (k + 1) cp7)).ownsRow base 2 1 x m zs := fun x m zs hx =>
  own_same hx (fun q hq => hst.2.block q (hx.lt q hq).2 (fun e => row_kind hx r7 (by decide) hq e.symm))
 have hul : i < us.length := (List.getElem?_eq_some_iff.1 hu).1
 refine ⟨⟨by simpa using hst.1, fun j x zs hj hx => ?_⟩, fun a b x y q hab hx hy' hxq hyq => ?_⟩
 · by_cases e : i = j
   · subst e
     rw [List.getElem?_set_self hul] at hj
     rw [List.getElem?_set_self hi] at hx
     simp only [Option.some.injEq] at hj hx
     subst hj hx
     rw [hy]
     exact keep _ _ _ own7
   · rw [List.getElem?_set_ne e] at hj hx
     have oj := own_kept (h.each j x zs hj hx) hb
     exact keep _ _ _ (own_same oj (fun q hq => grow7.block q (oj.lt q hq).2 (fun e' => ha i j ui x q e hu hj e'.symm hq)))
 · have lts : ∀ (m : Nat) (z : Value), us[m]? = some z → ∀ q', z.ownBlock = some q' → q' < w.heap.size := fun m z hz q' hq' => by
    have hm : m < X.length := by have := (List.getElem?_eq_some_iff.1 hz).1; have := h.len; omega
    exact ((h.each m z X[m] hz (List.getElem?_eq_getElem hm)).lt q' hq').2
   have new : ∀ (m : Nat) (z : Value), i ≠ m → us[m]? = some z → z.ownBlock = some g7 → False := fun m z hm hz hzq => by
    rcases hlo with h1 | h1
    · exact ha i m ui z g7 hm hu hz h1 hzq
    · have := lts m z hz g7 hzq
      have := hb.size
      omega
   by_cases ea : i = a
   · subst ea
     rw [List.getElem?_set_self hul] at hx
     rw [List.getElem?_set_ne hab] at hy'
     simp only [Option.some.injEq] at hx
     subst hx
     cases hxq
     exact new b y hab hy' hyq
   · by_cases eb : i = b
     · subst eb
       rw [List.getElem?_set_self hul] at hy'
       rw [List.getElem?_set_ne ea] at hx
       simp only [Option.some.injEq] at hy'
       subst hy'
       cases hyq
       exact new a x ea hx hxq
     · rw [List.getElem?_set_ne ea] at hx
       rw [List.getElem?_set_ne eb] at hy'
       exact ha a b x y q hab hx hy' hxq hyq

theorem cell_row7 {k : Nat} (h : OwnSS w base (.slice (some ⟨g, 0, none⟩) n cap) us X) (ho : w.ownsRow base 2 1 ui k (ints xs)) (hb : Below w.heap.size w w6) (grow7 : w6.grownBy w7 ui.ownBlock) (i : Nat) : w7.cell? ⟨g, i, none⟩ = w.cell? ⟨g, i, none⟩ ∧ w7.frozen? ⟨g, i, none⟩ = w.frozen? ⟨g, i, none⟩ := by
 have r6 := own_kept h.row hb
 have o6 := own_kept ho hb
 have zg := (h.row.lt g rfl).2
 have e : w7.heap[g]? = w.heap[g]? := (grow7.block g (r6.lt g rfl).2 (fun e => row_kind o6 r6 (by decide) e.symm rfl)).trans (hb.block g zg)
 exact ⟨World.cell?_of_block e, World.frozen?_of_block e⟩

end

/-- The rows as they stand: the first i whole, of the next one k. -/
def XS (ps : List (List Stm)) (I : Nat → Nat → List Int) (E : List Int) (i k : Nat) : List (List Int) := (List.range ps.length).map fun j => if j < i then rowF I E j (ps.getD j []).length else if j = i then (rowF I E j (ps.getD j []).length).take k else []

theorem XS_len (ps : List (List Stm)) (I : Nat → Nat → List Int) (E : List Int) (i k : Nat) : (XS ps I E i k).length = ps.length := by simp [XS]
theorem XS_get {ps : List (List Stm)} {I : Nat → Nat → List Int} {E : List Int} {i k j : Nat} (hj : j < ps.length) : (XS ps I E i k)[j]? = some (if j < i then rowF I E j ps[j].length else if j = i then (rowF I E j ps[j].length).take k else []) := by simp [XS, hj, List.getD]
theorem XS_set {ps : List (List Stm)} {I : Nat → Nat → List Int} {E : List Int} {i k : Nat} (hi : i < ps.length) : (XS ps I E i k).set i ((rowF I E i ps[i].length).take (k + 1)) = XS ps I E i (k + 1) := by
 refine List.ext_getElem? fun j => ?_
 by_cases e : i = j
 · subst e
   rw [List.getElem?_set_self (by rw [XS_len]; exact hi), XS_get hi, if_neg (by omega), if_pos rfl]
 · rw [List.getElem?_set_ne e]
   by_cases hj : j < ps.length
   · rw [XS_get hj, XS_get hj]
     by_cases h : j < i
     · rw [if_pos h, if_pos h]
     · rw [if_neg h, if_neg h, if_neg (fun e' => e e'.symm), if_neg (fun e' => e e'.symm)]
   · rw [List.getElem?_eq_none (by rw [XS_len]; omega), List.getElem?_eq_none (by rw [XS_len]; omega)]
theorem XS_next {ps : List (List Stm)} {I : Nat → Nat → List Int} {E : List Int} {i : Nat} (hi : i < ps.length) : XS ps I E i ps[i].length = XS ps I E (i + 1) 0 := by
 refine List.ext_getElem? fun j => ?_
 by_cases hj : j < ps.length
 · rw [XS_get hj, XS_get hj]
   by_cases h : j < i
   · rw [if_pos h, if_pos (by omega)]
   · by_cases e : j = i
     · subst e
       rw [if_neg h, if_pos rfl, if_pos (by omega), List.take_of_length_le (by rw [rowF_len]; omega)]
     · rw [if_neg h, if_neg e, if_neg (by omega)]
       split <;> simp
 · rw [List.getElem?_eq_none (by rw [XS_len]; omega), List.getElem?_eq_none (by rw [XS_len]; omega)]
theorem XS_zero (ps : List (List Stm)) (I : Nat → Nat → List Int) (E : List Int) : XS ps I E 0 0 = List.replicate ps.length [] := by
 refine List.ext_getElem? fun j => ?_
 by_cases hj : j < ps.length
 · rw [XS_get hj]; simp [hj]
 · rw [List.getElem?_eq_none (by rw [XS_len]; omega), List.getElem?_eq_none (by simp; omega)]
theorem XS_all (ps : List (List Stm)) (I : Nat → Nat → List Int) (E : List Int) : XS ps I E ps.length 0 = factL ps I E := by
 unfold XS factL
 refine List.map_congr_left fun j hj => ?_
 have : j < ps.length := by simpa using hj
 rw [if_pos this]

theorem map_row {w : World} {AA nA base k : Nat} {f : Int → Int → Option Int} {u : Value} {e : TypeId} {xs : List Value} (hm : MapAt w AA nA f) (ho : w.ownsRow base e 1 u k xs) : u.ownBlock ≠ some AA := by
 intro h
 obtain ⟨D, ⟨es, clock, hb, _⟩, _⟩ := hm
 rcases ho.2 with ⟨rfl, _⟩ | ⟨g, cap, cur, rfl, _, hg, _⟩
 · cases h
 · cases h
   rw [hb] at hg
   cases hg

theorem implFacts (ps : List (List Stm)) (c : Int) (A : List (List Int)) (hA : FactA ps c A) (v : Value) (w : World) (hl : ps.length ≤ maxLen) (hp : ∀ p ∈ ps, p.length ≤ maxLen) (hv : ReadsP w v ps) :
 Calls Try.prog 19 #[.agg #[v], .int .i64 c] w fun e w' => ∃ u us, e = .returned u ∧ OwnSS w' w.heap.size u us A ∧ ApartSS us ∧ Below w.heap.size w w' := by
 obtain ⟨i0, hi0, hz0, hz1, hz2⟩ := info_parts infoInt
 obtain ⟨i1, hj, hy0, hy1, hy2⟩ := info_parts infoSlice
 have b0 : Below w.heap.size w (w.alloc (.cells #[v] 30)) := by go_grown
 have hP0 := heap_alloc_new w (.cells #[v] 30)
 have s0 : (w.alloc (.cells #[v] 30)).heap.size = w.heap.size + 1 := by simp
 have hcs := canSum ps c v (w.alloc (.cells #[v] 30)) hl hp (readsP_below hv b0)
 cases ho : okB ps c with
 | false =>
  rw [hA.2 ho]
  rw [ho] at hcs
  go_enter Try.func19, Try.ntmps19
  go_wp2_with (go_at_call 44; refine hcs.mono ?_; rintro e w1 ⟨rfl, b1⟩)
  go_ret
  exact ⟨_, [], rfl, ⟨World.ownsRow_nil _ _ _ _, fun j u xs hj => by simp at hj⟩, fun a b x y q _ hx => by simp at hx, b0.trans (b1.mono (by omega))⟩
 | true =>
  rw [ho] at hcs
  obtain ⟨I, E, hI, rfl⟩ := hA.1 ho
  obtain ⟨_, hc, hcp, h4⟩ := okB_parts ho
  have h1 := ok_one ho
  obtain ⟨ao, cap, rfl, hcell⟩ := id hv
  have hff := fun W (hW : Below w.heap.size w W) => findingsOf ps c _ W hc hcp h1 h4 (readsP_below hv hW)
  have hb8 : i1.bytes * ps.length ≤ 281474976710656 := by rw [hy2]; omega
  have hmx : ps.length ≤ maxLen := by unfold maxLen; omega
  go_enter Try.func19, Try.ntmps19
  go_wp2_with fail
  go_at_call 44
  refine hcs.mono ?_
  rintro e w1 ⟨rfl, b1⟩
  have L1 := b0.trans (b1.mono (by omega))
  have P1 := (b1.block w.heap.size (by omega)).trans hP0
  obtain ⟨c1, f1⟩ := one_cell P1
  have z1 : w.heap.size < w1.heap.size := (Array.getElem?_eq_some_iff.1 P1).1
  go_wp2_with fail
  go_at_call 45
  refine (hff w1 L1).mono ?_
  rintro e w2 ⟨gs, G, AA, WW, nA, nW, E2, f, g, rfl, hgs, hin, hent, hE4, hF, hap, hah, hout⟩
  have L2 := L1.trans (hF.bl.mono L1.size)
  have P2 := (hF.bl.block w.heap.size z1).trans P1
  obtain ⟨c2, f2⟩ := one_cell P2
  have hmA := hF.fb.mA hgs hE4
  have HM2 : Hid (MapAt w2 AA nA f) := hF.a
  have HV : Hid (∀ i (hi : i < ps.length) k, k < ps[i].length → (f i k).getD 0 = img (I i k) (E.getD i 0)) := fun i hi k hk => (hah i hi k hk).trans (hI.rows hcp hin hent hi hk)
  have z2 : w.heap.size < w2.heap.size := (Array.getElem?_eq_some_iff.1 P2).1
  clear hcs hff c1 f1 hF hap hah hout hin hent
  go_wp2_with (at_make; refine wpList_make_full _ rfl _ _ 37 rfl w2.heap.size 26 i1 (.slice none 0 0) 1 Try.underlying37 hj hy0 hy1 .i64 .i64 (ps.length : Int) (ps.length : Int) ps.length rfl rfl rfl rfl hb8 hmx (Nat.le_refl _) ?_; intro w6 own6 grow6; refine stop_of ?_)
  unfold Stop
  have e6 : (madeCells (Value.slice none 0 0).cells (ps.length * 1)).toList = List.replicate ps.length (.slice none 0 0) := by
   have := toList_madeCells_one (.slice none 0 0) ps.length
   rw [Nat.mul_one]
   exact this
  rw [e6] at own6
  have b6 : Below w2.heap.size w2 w6 := below_none grow6
  have S6 : Hid (OwnSS w6 w2.heap.size (.slice (some ⟨w2.heap.size, 0, none⟩) ps.length ps.length) (List.replicate ps.length (.slice none 0 0)) (XS ps I E 0 0)) := by
   refine ⟨by rw [XS_len]; exact own6, fun j u xs hj' hx => ?_⟩
   rw [XS_zero] at hx
   have hx' := List.eq_of_mem_replicate (List.mem_of_getElem? hx)
   have hj'' := List.eq_of_mem_replicate (List.mem_of_getElem? hj')
   subst hx' hj''
   exact World.ownsRow_nil _ _ _ _
  have A6 : Hid (ApartSS (List.replicate ps.length (Value.slice none 0 0))) := fun a b x y q _ hx _ hxq => by
   have := List.eq_of_mem_replicate (List.mem_of_getElem? hx)
   subst this
   cases hxq
  have HM6 : Hid (MapAt w6 AA nA f) := HM2.out.below b6
  have HB6 : Hid _ := b6
  have c6 := (b6.cell z2).trans c2
  clear own6 e6 grow6 b6 hmA c2 f2 HM2
  go_wp2_with fail
  go_loopw [27] (fun iv wr => ∃ (i : Nat) (us : List Value), i ≤ ps.length ∧ iv = .int .i64 i ∧ OwnSS wr w2.heap.size (.slice (some ⟨w2.heap.size, 0, none⟩) ps.length ps.length) us (XS ps I E i 0) ∧ ApartSS us ∧ MapAt wr AA nA f ∧ Below w2.heap.size w2 wr) (fun iv _ => ps.length - (intOf iv).toNat)
  case atStart => exact ⟨0, _, Nat.zero_le _, rfl, S6.out, A6.out, HM6.out, HB6.out⟩
  case round =>
   obtain ⟨i, us, hi, rfl, hO, hAp, hMa, hB⟩ := hrel
   obtain ⟨wi, rfl⟩ : ∃ wi, wi = wr := ⟨wr, rfl⟩
   have HO : Hid _ := hO
   have HAp : Hid (ApartSS us) := hAp
   have HMa : Hid (MapAt wi AA nA f) := hMa
   have HB : Hid _ := hB
   clear S6 A6 HM6 HB6 c6 hO hAp hMa hB
   by_cases hlt : i < ps.length
   · have hlt' : (i : Int) < (ps.length : Int) := by omega
     have h12 : ps[i].length ≤ 12 := (procOk_parts (hcp i hlt).1).2.1
     obtain ⟨gp, op, u, rfl, hu0, au, cu, rfl, _⟩ := hcell i ps[i] (by simp [hlt])
     have hLi := L2.trans (HB.out.mono L2.size)
     have hu := (hLi.cell (World.block_lt_of_cell? w _ hu0)).trans hu0
     have b7 : Below wi.heap.size wi (wi.alloc (.cells #[.slice au ps[i].length cu] 81)) := by go_grown
     have HO7 : Hid _ := HO.out.below b7
     have HM7 : Hid (MapAt (wi.alloc (.cells #[.slice au ps[i].length cu] 81)) AA nA f) := HMa.out.below b7
     have HB7 : Hid (Below w2.heap.size w2 (wi.alloc (.cells #[.slice au ps[i].length cu] 81))) := HB.out.trans (b7.mono HB.out.size)
     obtain ⟨q7, _⟩ := one_cell (heap_alloc_new wi (.cells #[.slice au ps[i].length cu] 81))
     clear HO HMa HB b7
     go_wp2_with fail
     go_loopw [35] (fun kv wr => ∃ (k : Nat) (us : List Value), k ≤ ps[i].length ∧ kv = .int .i64 k ∧ OwnSS wr w2.heap.size (.slice (some ⟨w2.heap.size, 0, none⟩) ps.length ps.length) us (XS ps I E i k) ∧ ApartSS us ∧ MapAt wr AA nA f ∧ Below w2.heap.size w2 wr) (fun kv _ => ps[i].length - (intOf kv).toNat)
     case atStart => exact ⟨0, us, Nat.zero_le _, rfl, HO7.out, HAp.out, HM7.out, HB7.out⟩
     case round =>
      obtain ⟨k, us, hk, rfl, hO, hAp, hMa, hB⟩ := hrel
      have HO : Hid _ := hO
      have HA : Hid (ApartSS us) := hAp
      have HM : Hid (MapAt wr AA nA f) := hMa
      have HBL : Hid (Below w2.heap.size w2 wr) := hB
      clear HO7 HM7 HB7 q7 hAp hMa hB HAp
      by_cases hkl : k < ps[i].length
      · have hkl' : (k : Int) < (ps[i].length : Int) := by omega
        have hiX : i < (XS ps I E i k).length := by rw [XS_len]; exact hlt
        have hul : i < us.length := by rw [hO.len]; exact hiX
        obtain ⟨ui, hui⟩ : ∃ ui, us[i]? = some ui := ⟨us[i], List.getElem?_eq_getElem hul⟩
        have HUI2 : Hid (us[i]? = some ui) := hui
        have hUi := hO.each i ui _ hui (XS_get hlt)
        rw [if_neg (by omega), if_pos rfl, List.length_take, rowF_len, Nat.min_eq_left (by omega)] at hUi
        obtain ⟨rw9, hrw9⟩ : ∃ r, rowF I E i ps[i].length = r := ⟨_, rfl⟩
        rw [hrw9] at hUi
        have HUI : Hid (wr.ownsRow w2.heap.size 2 1 ui k (ints (rw9.take k))) := hUi
        have hrow := hO.row
        rw [XS_len] at hrow
        have cS : wr.cell? ⟨w2.heap.size, i, none⟩ = some ui := (hrow.cellAt i (by omega)).trans hui
        have fS : wr.frozen? ⟨w2.heap.size, i, none⟩ = false := hrow.frozenAt i
        have HYL : Hid ((rw9.take (k + 1)).length = k + 1) := by
         show (rw9.take (k + 1)).length = k + 1
         rw [← hrw9, List.length_take, rowF_len]; omega
        have zS := World.block_lt_of_cell? wr _ cS
        have hik : Wf i := WalkArith.wf_i64 (by omega)
        have hkk : Wf k := WalkArith.wf_i64 (by omega)
        have hfx := HV.out i hlt k hkl
        obtain ⟨fx, hfx9⟩ : ∃ x, img (I i k) (E.getD i 0) = x := ⟨_, rfl⟩
        rw [hfx9] at hfx
        have HTK : Hid (rw9.take (k + 1) = rw9.take k ++ [fx]) := by
         have := rowF_take I E i ps[i].length hkl
         rw [hrw9, hfx9] at this
         exact this
        have HMS : Hid (w2.heap.size ≠ AA) := fun e => map_row HM.out hO.row (by rw [← e]; rfl)
        have HRW : Hid _ := hrw9
        clear hO hui hUi hrw9 hfx9 hrow
        go_wp2_with fail
        refine wp_region_held_drew (S := fun w' => MapAt w' AA nA f) (by kernel_rfl) (HM.out.below (Below.drew (Below.refl _ _))) (fun hHeld => ?_)
        refine wpAnyH_take (i := 0) (oi := ?oiz0) (v := .slice (some ⟨w2.heap.size, 0, none⟩) ps.length ps.length) ?hiz0 (by kernel_rfl) (by kernel_rfl) (by kernel_rfl) ?hqz0 ?hyz0 hHeld ?hrz0
        case hiz0 =>
         simp only [gA, gB, gC]
         rfl
        case hqz0 => exact fun _ _ _ h => h
        case hyz0 => exact Or.inl ⟨by kernel_rfl, fun w hSw => by go_simp⟩
        try simp only [Act.put, gD, gE, gF]
        refine wpAnyH_take (i := 1) (oi := ?oiz1) (v := .int .i64 (i : Int)) ?hiz1 (by kernel_rfl) (by kernel_rfl) (by kernel_rfl) ?hqz1 ?hyz1 hHeld ?hrz1
        case hiz1 =>
         simp only [gA, gB, gC]
         rfl
        case hqz1 => exact fun _ _ _ h => h
        case hyz1 => exact Or.inl ⟨by kernel_rfl, fun w hSw => by go_simp⟩
        try simp only [Act.put, gD, gE, gF]
        refine wpAnyH_take (i := 2) (oi := ?oiz2) (v := .slice (some ⟨w2.heap.size, 0, none⟩) ps.length ps.length) ?hiz2 (by kernel_rfl) (by kernel_rfl) (by kernel_rfl) ?hqz2 ?hyz2 hHeld ?hrz2
        case hiz2 =>
         simp only [gA, gB, gC]
         rfl
        case hqz2 => exact fun _ _ _ h => h
        case hyz2 => exact Or.inl ⟨by kernel_rfl, fun w hSw => by go_simp⟩
        try simp only [Act.put, gD, gE, gF]
        refine wpAnyH_take (i := 3) (oi := ?oiz3) (v := .int .i64 (i : Int)) ?hiz3 (by kernel_rfl) (by kernel_rfl) (by kernel_rfl) ?hqz3 ?hyz3 hHeld ?hrz3
        case hiz3 =>
         simp only [gA, gB, gC]
         rfl
        case hqz3 => exact fun _ _ _ h => h
        case hyz3 => exact Or.inl ⟨by kernel_rfl, fun w hSw => by go_simp⟩
        try simp only [Act.put, gD, gE, gF]
        refine wpAnyH_take (i := 4) (oi := ?oiz4) (v := .pointer (some ⟨w2.heap.size, i, none⟩)) ?hiz4 (by kernel_rfl) (by kernel_rfl) (by kernel_rfl) ?hqz4 ?hyz4 hHeld ?hrz4
        case hiz4 =>
         simp only [gA, gB, gC]
         rfl
        case hqz4 => exact fun _ _ _ h => h
        case hyz4 => exact Or.inl ⟨by kernel_rfl, fun w hSw => by go_simp⟩
        try simp only [Act.put, gD, gE, gF]
        refine wpAnyH_take (i := 6) (oi := ?oiz6) (v := .map (some AA)) ?hiz6 (by kernel_rfl) (by kernel_rfl) (by kernel_rfl) ?hqz6 ?hyz6 hHeld ?hrz6
        case hiz6 =>
         simp only [gA, gB, gC]
         rfl
        case hqz6 => exact fun _ _ _ h => h
        case hyz6 => exact Or.inl ⟨by kernel_rfl, fun w hSw => by go_simp⟩
        try simp only [Act.put, gD, gE, gF]
        refine wpAnyH_take (i := 7) (oi := ?oiz7) (v := .int .i64 (i : Int)) ?hiz7 (by kernel_rfl) (by kernel_rfl) (by kernel_rfl) ?hqz7 ?hyz7 hHeld ?hrz7
        case hiz7 =>
         simp only [gA, gB, gC]
         rfl
        case hqz7 => exact fun _ _ _ h => h
        case hyz7 => exact Or.inl ⟨by kernel_rfl, fun w hSw => by go_simp⟩
        try simp only [Act.put, gD, gE, gF]
        refine wpAnyH_take (i := 8) (oi := ?oiz8) (v := .int .i64 (k : Int)) ?hiz8 (by kernel_rfl) (by kernel_rfl) (by kernel_rfl) ?hqz8 ?hyz8 hHeld ?hrz8
        case hiz8 =>
         simp only [gA, gB, gC]
         rfl
        case hqz8 => exact fun _ _ _ h => h
        case hyz8 => exact Or.inl ⟨by kernel_rfl, fun w hSw => by go_simp⟩
        try simp only [Act.put, gD, gE, gF]
        refine wpAnyH_ready (rs := [5, 9]) (by kernel_rfl) (by simp) ?_
        refine (AllReadyH.cons (o := ?ooz5) ?hoz5 (fun K hK => ?hkz5) (AllReadyH.cons (o := ?ooz9) ?hoz9 (fun K hK => ?hkz9) AllReadyH.nil))
        case hoz5 =>
         simp only [gA, gB, gC]
         rfl
        case hoz9 =>
         simp only [gA, gB, gC]
         rfl
        case hkz5 =>
         go_simp
         try go_wp2_with fail
         refine hK.out _ _ hHeld (fun hHeld => ?_)
         clear hK K
         try simp only [Act.put, gD, gE, gF]
         refine wpAnyH_ready (rs := [9]) (by kernel_rfl) (by simp) ?_
         refine (AllReadyH.cons (o := ?ooza9) ?hoza9 (fun K hK => ?hkza9) AllReadyH.nil)
         case hoza9 =>
          simp only [gA, gB, gC]
          rfl
         case hkza9 =>
          go_simp
          go_at_call 49
          refine (placeOf i k wr.drew).mono ?_
          rintro e w5 ⟨rfl, b5⟩
          have B5 : Hid (Below wr.heap.size wr w5) := (Below.drew (Below.refl wr.heap.size wr)).trans b5
          have c5 : w5.cell? ⟨w2.heap.size, i, none⟩ = some ui := (B5.out.cell zS).trans cS
          clear b5
          try go_wp2_with fail
          refine hK.out _ _ (HM.out.below B5.out) (fun hHeld => ?_)
          clear hK K
          try simp only [Act.put, gD, gE, gF]
          refine wpAnyH_take (i := 10) (oi := ?oiza10) (v := .int .i64 fx) ?hiza10 (by kernel_rfl) (by kernel_rfl) (by kernel_rfl) ?hqza10 ?hyza10 hHeld ?hrza10
          case hiza10 =>
           simp only [gA, gB, gC]
           rfl
          case hqza10 => exact fun _ _ _ h => h
          case hyza10 => exact Or.inl ⟨by kernel_rfl, fun w hSw => by have s1 := MapAt.lookup hSw hik hkk; rw [hfx] at s1; go_simp⟩
          try simp only [Act.put, gD, gE, gF]
          refine wpAnyH_ready (rs := [11]) (by kernel_rfl) (by simp) ?_
          refine (AllReadyH.cons (o := ?ooza11) ?hoza11 (fun K hK => ?hkza11) AllReadyH.nil)
          case hoza11 =>
           simp only [gA, gB, gC]
           rfl
          case hkza11 =>
           go_simp
           try go_wp2_with fail
           have B6 : Hid (Below wr.heap.size wr (w5.alloc (.cells #[.int .i64 fx] 2))) := B5.out.alloc B5.out.size _
           have HNB : Hid _ := heap_alloc_new w5 (.cells #[.int .i64 fx] 2)
           have c6 : (w5.alloc (.cells #[.int .i64 fx] 2)).cell? ⟨w2.heap.size, i, none⟩ = some ui := (B6.out.cell zS).trans cS
           have HM6 : Hid (MapAt (w5.alloc (.cells #[.int .i64 fx] 2)) AA nA f) := HM.out.below B6.out
           generalize hw6 : (w5.alloc (.cells #[.int .i64 fx] 2)) = w6 at *
           have hs6 : w5.heap.size < w6.heap.size := by rw [← hw6]; simp
           refine hK.out _ _ HM6.out (fun hHeld => ?_)
           clear hK K
           try simp only [Act.put, gD, gE, gF]
           refine wpAnyH_ready (rs := [12]) (by kernel_rfl) (by simp) ?_
           refine (AllReadyH.cons (o := ?ooza12) ?hoza12 (fun K hK => ?hkza12) AllReadyH.nil)
           case hoza12 =>
            simp only [gA, gB, gC]
            rfl
           case hkza12 =>
            refine step_append_lies _ rfl (.tmp 43) (.tmp 49) 26 rfl w2.heap.size 2 i0 (.int .i64 0) 1 8 Try.underlying26 hi0 hz0 hz1 hz2 rfl (by decide) ui k (ints (rw9.take k)) rfl (own_kept HUI.out B6.out) ⟨w5.heap.size, 0, none⟩ 1 1 [.int .i64 fx] rfl rfl (World.news_of_block HNB.out) (ints_oneCell [fx]) (by omega) (by unfold maxLen; omega) (by omega) (Nat.le_trans HBL.out.size B6.out.size) _ rfl ?_
            intro g7 cp7 w7 own7 grow7 hlo7 hlt7
            have own7' : w7.ownsRow w2.heap.size 2 1 (.slice (some ⟨g7, 0, none⟩) (k + 1) cp7) (k + 1) (ints (rw9.take (k + 1))) := by rw [HTK.out, ints_append]; exact own7
            have HG7 : Hid _ := facts_grow HO.out HA.out hiX HUI2.out HUI.out B6.out own7' grow7 hlo7 rfl HYL.out
            have HM7 : Hid (MapAt w7 AA nA f) := HM6.out.same (grow7.block AA HM6.out.lt (fun e => map_row HM.out HUI.out e.symm))
            have hcf := cell_row7 HO.out HUI.out B6.out grow7 i
            have c7 := hcf.1.trans cS
            have f7 := hcf.2.trans fS
            have HB7 : Hid (Below w2.heap.size w2 w7) := (HBL.out.trans (B6.out.mono HBL.out.size)).grown grow7 (HBL.out.trans (B6.out.mono HBL.out.size)).size (fun q hq => (HUI.out.lt q hq).1)
            clear own7 own7' grow7 hcf
            refine hK.out _ _ HM7.out (fun hHeld => ?_)
            clear hK K
            try simp only [Act.put, gD, gE, gF]
            refine wpAnyH_take (i := 13) (oi := ?oiza13) (v := .pointer (some ⟨w2.heap.size, i, none⟩)) ?hiza13 (by kernel_rfl) (by kernel_rfl) (by kernel_rfl) ?hqza13 ?hyza13 hHeld ?hrza13
            case hiza13 =>
             simp only [gA, gB, gC]
             rfl
            case hqza13 => exact fun _ _ _ h => h
            case hyza13 => exact Or.inl ⟨by kernel_rfl, fun w hSw => by go_simp⟩
            try simp only [Act.put, gD, gE, gF]
            refine wpAnyH_ready (rs := [14]) (by kernel_rfl) (by simp) ?_
            refine (AllReadyH.cons (o := ?ooza14) ?hoza14 (fun K hK => ?hkza14) AllReadyH.nil)
            case hoza14 =>
             simp only [gA, gB, gC]
             rfl
            case hkza14 =>
             have HM8 : Hid (MapAt (w7.setCell ⟨w2.heap.size, i, none⟩ (.slice (some ⟨g7, 0, none⟩) (k + 1) cp7)) AA nA f) := HM7.out.same (heap_other9 (fun e => HMS.out e.symm))
             go_simp
             try go_wp2_with fail
             refine hK.out _ _ HM8.out (fun hHeld => ?_)
             clear hK K
             try simp only [Act.put, gD, gE, gF]
             refine wpAnyH_done (by kernel_rfl) ?_ _
             go_wp2_with fail
             go_roundw
             case rel =>
              exact ⟨k + 1, _, by omega, by go_num, by rw [← XS_set hlt, HRW.out]; exact HG7.out.1, HG7.out.2, HM8.out, HB7.out.setCell (show _ ≤ (⟨w2.heap.size, i, none⟩ : Addr).block from Nat.le_refl _) _⟩
             case measure => simp [intOf]; omega
        case hkz9 =>
         go_simp
         go_at_call 49
         refine (placeOf i k wr.drew).mono ?_
         rintro e w5 ⟨rfl, b5⟩
         have B5 : Hid (Below wr.heap.size wr w5) := (Below.drew (Below.refl wr.heap.size wr)).trans b5
         have c5 : w5.cell? ⟨w2.heap.size, i, none⟩ = some ui := (B5.out.cell zS).trans cS
         clear b5
         try go_wp2_with fail
         refine hK.out _ _ (HM.out.below B5.out) (fun hHeld => ?_)
         clear hK K
         try simp only [Act.put, gD, gE, gF]
         refine wpAnyH_take (i := 10) (oi := ?oizb10) (v := .int .i64 fx) ?hizb10 (by kernel_rfl) (by kernel_rfl) (by kernel_rfl) ?hqzb10 ?hyzb10 hHeld ?hrzb10
         case hizb10 =>
          simp only [gA, gB, gC]
          rfl
         case hqzb10 => exact fun _ _ _ h => h
         case hyzb10 => exact Or.inl ⟨by kernel_rfl, fun w hSw => by have s1 := MapAt.lookup hSw hik hkk; rw [hfx] at s1; go_simp⟩
         try simp only [Act.put, gD, gE, gF]
         refine wpAnyH_ready (rs := [5, 11]) (by kernel_rfl) (by simp) ?_
         refine (AllReadyH.cons (o := ?oozb5) ?hozb5 (fun K hK => ?hkzb5) (AllReadyH.cons (o := ?oozb11) ?hozb11 (fun K hK => ?hkzb11) AllReadyH.nil))
         case hozb5 =>
          simp only [gA, gB, gC]
          rfl
         case hozb11 =>
          simp only [gA, gB, gC]
          rfl
         case hkzb5 =>
          go_simp
          try go_wp2_with fail
          refine hK.out _ _ hHeld (fun hHeld => ?_)
          clear hK K
          try simp only [Act.put, gD, gE, gF]
          refine wpAnyH_ready (rs := [11]) (by kernel_rfl) (by simp) ?_
          refine (AllReadyH.cons (o := ?oozba11) ?hozba11 (fun K hK => ?hkzba11) AllReadyH.nil)
          case hozba11 =>
           simp only [gA, gB, gC]
           rfl
          case hkzba11 =>
           go_simp
           try go_wp2_with fail
           have B6 : Hid (Below wr.heap.size wr (w5.alloc (.cells #[.int .i64 fx] 2))) := B5.out.alloc B5.out.size _
           have HNB : Hid _ := heap_alloc_new w5 (.cells #[.int .i64 fx] 2)
           have c6 : (w5.alloc (.cells #[.int .i64 fx] 2)).cell? ⟨w2.heap.size, i, none⟩ = some ui := (B6.out.cell zS).trans cS
           have HM6 : Hid (MapAt (w5.alloc (.cells #[.int .i64 fx] 2)) AA nA f) := HM.out.below B6.out
           generalize hw6 : (w5.alloc (.cells #[.int .i64 fx] 2)) = w6 at *
           have hs6 : w5.heap.size < w6.heap.size := by rw [← hw6]; simp
           refine hK.out _ _ HM6.out (fun hHeld => ?_)
           clear hK K
           try simp only [Act.put, gD, gE, gF]
           refine wpAnyH_ready (rs := [12]) (by kernel_rfl) (by simp) ?_
           refine (AllReadyH.cons (o := ?oozba12) ?hozba12 (fun K hK => ?hkzba12) AllReadyH.nil)
           case hozba12 =>
            simp only [gA, gB, gC]
            rfl
           case hkzba12 =>
            refine step_append_lies _ rfl (.tmp 43) (.tmp 49) 26 rfl w2.heap.size 2 i0 (.int .i64 0) 1 8 Try.underlying26 hi0 hz0 hz1 hz2 rfl (by decide) ui k (ints (rw9.take k)) rfl (own_kept HUI.out B6.out) ⟨w5.heap.size, 0, none⟩ 1 1 [.int .i64 fx] rfl rfl (World.news_of_block HNB.out) (ints_oneCell [fx]) (by omega) (by unfold maxLen; omega) (by omega) (Nat.le_trans HBL.out.size B6.out.size) _ rfl ?_
            intro g7 cp7 w7 own7 grow7 hlo7 hlt7
            have own7' : w7.ownsRow w2.heap.size 2 1 (.slice (some ⟨g7, 0, none⟩) (k + 1) cp7) (k + 1) (ints (rw9.take (k + 1))) := by rw [HTK.out, ints_append]; exact own7
            have HG7 : Hid _ := facts_grow HO.out HA.out hiX HUI2.out HUI.out B6.out own7' grow7 hlo7 rfl HYL.out
            have HM7 : Hid (MapAt w7 AA nA f) := HM6.out.same (grow7.block AA HM6.out.lt (fun e => map_row HM.out HUI.out e.symm))
            have hcf := cell_row7 HO.out HUI.out B6.out grow7 i
            have c7 := hcf.1.trans cS
            have f7 := hcf.2.trans fS
            have HB7 : Hid (Below w2.heap.size w2 w7) := (HBL.out.trans (B6.out.mono HBL.out.size)).grown grow7 (HBL.out.trans (B6.out.mono HBL.out.size)).size (fun q hq => (HUI.out.lt q hq).1)
            clear own7 own7' grow7 hcf
            refine hK.out _ _ HM7.out (fun hHeld => ?_)
            clear hK K
            try simp only [Act.put, gD, gE, gF]
            refine wpAnyH_take (i := 13) (oi := ?oizba13) (v := .pointer (some ⟨w2.heap.size, i, none⟩)) ?hizba13 (by kernel_rfl) (by kernel_rfl) (by kernel_rfl) ?hqzba13 ?hyzba13 hHeld ?hrzba13
            case hizba13 =>
             simp only [gA, gB, gC]
             rfl
            case hqzba13 => exact fun _ _ _ h => h
            case hyzba13 => exact Or.inl ⟨by kernel_rfl, fun w hSw => by go_simp⟩
            try simp only [Act.put, gD, gE, gF]
            refine wpAnyH_ready (rs := [14]) (by kernel_rfl) (by simp) ?_
            refine (AllReadyH.cons (o := ?oozba14) ?hozba14 (fun K hK => ?hkzba14) AllReadyH.nil)
            case hozba14 =>
             simp only [gA, gB, gC]
             rfl
            case hkzba14 =>
             have HM8 : Hid (MapAt (w7.setCell ⟨w2.heap.size, i, none⟩ (.slice (some ⟨g7, 0, none⟩) (k + 1) cp7)) AA nA f) := HM7.out.same (heap_other9 (fun e => HMS.out e.symm))
             go_simp
             try go_wp2_with fail
             refine hK.out _ _ HM8.out (fun hHeld => ?_)
             clear hK K
             try simp only [Act.put, gD, gE, gF]
             refine wpAnyH_done (by kernel_rfl) ?_ _
             go_wp2_with fail
             go_roundw
             case rel =>
              exact ⟨k + 1, _, by omega, by go_num, by rw [← XS_set hlt, HRW.out]; exact HG7.out.1, HG7.out.2, HM8.out, HB7.out.setCell (show _ ≤ (⟨w2.heap.size, i, none⟩ : Addr).block from Nat.le_refl _) _⟩
             case measure => simp [intOf]; omega
         case hkzb11 =>
          go_simp
          try go_wp2_with fail
          have B6 : Hid (Below wr.heap.size wr (w5.alloc (.cells #[.int .i64 fx] 2))) := B5.out.alloc B5.out.size _
          have HNB : Hid _ := heap_alloc_new w5 (.cells #[.int .i64 fx] 2)
          have c6 : (w5.alloc (.cells #[.int .i64 fx] 2)).cell? ⟨w2.heap.size, i, none⟩ = some ui := (B6.out.cell zS).trans cS
          have HM6 : Hid (MapAt (w5.alloc (.cells #[.int .i64 fx] 2)) AA nA f) := HM.out.below B6.out
          generalize hw6 : (w5.alloc (.cells #[.int .i64 fx] 2)) = w6 at *
          have hs6 : w5.heap.size < w6.heap.size := by rw [← hw6]; simp
          refine hK.out _ _ HM6.out (fun hHeld => ?_)
          clear hK K
          try simp only [Act.put, gD, gE, gF]
          refine wpAnyH_ready (rs := [5]) (by kernel_rfl) (by simp) ?_
          refine (AllReadyH.cons (o := ?oozbb5) ?hozbb5 (fun K hK => ?hkzbb5) AllReadyH.nil)
          case hozbb5 =>
           simp only [gA, gB, gC]
           rfl
          case hkzbb5 =>
           go_simp
           try go_wp2_with fail
           refine hK.out _ _ hHeld (fun hHeld => ?_)
           clear hK K
           try simp only [Act.put, gD, gE, gF]
           refine wpAnyH_ready (rs := [12]) (by kernel_rfl) (by simp) ?_
           refine (AllReadyH.cons (o := ?oozbb12) ?hozbb12 (fun K hK => ?hkzbb12) AllReadyH.nil)
           case hozbb12 =>
            simp only [gA, gB, gC]
            rfl
           case hkzbb12 =>
            refine step_append_lies _ rfl (.tmp 43) (.tmp 49) 26 rfl w2.heap.size 2 i0 (.int .i64 0) 1 8 Try.underlying26 hi0 hz0 hz1 hz2 rfl (by decide) ui k (ints (rw9.take k)) rfl (own_kept HUI.out B6.out) ⟨w5.heap.size, 0, none⟩ 1 1 [.int .i64 fx] rfl rfl (World.news_of_block HNB.out) (ints_oneCell [fx]) (by omega) (by unfold maxLen; omega) (by omega) (Nat.le_trans HBL.out.size B6.out.size) _ rfl ?_
            intro g7 cp7 w7 own7 grow7 hlo7 hlt7
            have own7' : w7.ownsRow w2.heap.size 2 1 (.slice (some ⟨g7, 0, none⟩) (k + 1) cp7) (k + 1) (ints (rw9.take (k + 1))) := by rw [HTK.out, ints_append]; exact own7
            have HG7 : Hid _ := facts_grow HO.out HA.out hiX HUI2.out HUI.out B6.out own7' grow7 hlo7 rfl HYL.out
            have HM7 : Hid (MapAt w7 AA nA f) := HM6.out.same (grow7.block AA HM6.out.lt (fun e => map_row HM.out HUI.out e.symm))
            have hcf := cell_row7 HO.out HUI.out B6.out grow7 i
            have c7 := hcf.1.trans cS
            have f7 := hcf.2.trans fS
            have HB7 : Hid (Below w2.heap.size w2 w7) := (HBL.out.trans (B6.out.mono HBL.out.size)).grown grow7 (HBL.out.trans (B6.out.mono HBL.out.size)).size (fun q hq => (HUI.out.lt q hq).1)
            clear own7 own7' grow7 hcf
            refine hK.out _ _ HM7.out (fun hHeld => ?_)
            clear hK K
            try simp only [Act.put, gD, gE, gF]
            refine wpAnyH_take (i := 13) (oi := ?oizbb13) (v := .pointer (some ⟨w2.heap.size, i, none⟩)) ?hizbb13 (by kernel_rfl) (by kernel_rfl) (by kernel_rfl) ?hqzbb13 ?hyzbb13 hHeld ?hrzbb13
            case hizbb13 =>
             simp only [gA, gB, gC]
             rfl
            case hqzbb13 => exact fun _ _ _ h => h
            case hyzbb13 => exact Or.inl ⟨by kernel_rfl, fun w hSw => by go_simp⟩
            try simp only [Act.put, gD, gE, gF]
            refine wpAnyH_ready (rs := [14]) (by kernel_rfl) (by simp) ?_
            refine (AllReadyH.cons (o := ?oozbb14) ?hozbb14 (fun K hK => ?hkzbb14) AllReadyH.nil)
            case hozbb14 =>
             simp only [gA, gB, gC]
             rfl
            case hkzbb14 =>
             have HM8 : Hid (MapAt (w7.setCell ⟨w2.heap.size, i, none⟩ (.slice (some ⟨g7, 0, none⟩) (k + 1) cp7)) AA nA f) := HM7.out.same (heap_other9 (fun e => HMS.out e.symm))
             go_simp
             try go_wp2_with fail
             refine hK.out _ _ HM8.out (fun hHeld => ?_)
             clear hK K
             try simp only [Act.put, gD, gE, gF]
             refine wpAnyH_done (by kernel_rfl) ?_ _
             go_wp2_with fail
             go_roundw
             case rel =>
              exact ⟨k + 1, _, by omega, by go_num, by rw [← XS_set hlt, HRW.out]; exact HG7.out.1, HG7.out.2, HM8.out, HB7.out.setCell (show _ ≤ (⟨w2.heap.size, i, none⟩ : Addr).block from Nat.le_refl _) _⟩
             case measure => simp [intOf]; omega
      · have hkk : k = ps[i].length := by omega
        subst hkk
        go_wp2_with fail
        go_roundw
        case rel => exact ⟨i + 1, us, by omega, by go_num, by rw [← XS_next hlt]; exact HO.out, HA.out, HM.out, HBL.out⟩
        case measure => simp [intOf]; omega
   · have hii : i = ps.length := by omega
     subst hii
     go_wp2_with fail
     go_ret
     exact ⟨_, us, rfl, by rw [← XS_all]; exact HO.out.mono L2.size, HAp.out, L2.trans (HB.out.mono L2.size)⟩

end Go.Proofs.Ytnjbihfceckpfaa
