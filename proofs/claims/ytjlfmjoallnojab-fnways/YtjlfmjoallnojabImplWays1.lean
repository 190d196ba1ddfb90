/-
  impl.waysUpTo: the iterator's contract.
-/
import Derived.Test.YtjlfmjoallnojabWaysIt
namespace Go.Proofs.Ytjlfmjoallnojab
open Go.RowKit Go.Shelf
set_option linter.unusedVariables false
set_option maxHeartbeats 4000000
attribute [local go_sem] Oper.semAt_some

def nTo' (ss : List Stm) (m c : Nat) : List (List Int) := ((levs ss m).take c).flatMap (grow1 ss)

theorem nTo'_all (ss : List Stm) (m : Nat) : nTo' ss m (levs ss m).length = levs ss (m + 1) := by simp [nTo', levs]
theorem nTo'_next (ss : List Stm) (m c : Nat) (hc : c < (levs ss m).length) : nTo' ss m (c + 1) = nTo' ss m c ++ grow1 ss (levs ss m)[c] := by
  unfold nTo'
  rw [List.take_succ_eq_append_getElem hc, List.flatMap_append]
  simp

/-- All ways of at most m statements. -/
def allTo (ss : List Stm) : Nat → List (List Int)
  | 0 => []
  | k + 1 => allTo ss k ++ levs ss k

theorem allTo_len (ss : List Stm) : ∀ k, k ≤ 9 → (allTo ss k).length ≤ 512 * k
  | 0, _ => by simp [allTo]
  | k + 1, h => by
    have h1 := allTo_len ss k (by omega)
    have h2 := levs_small ss k (by omega)
    simp only [allTo, List.length_append]
    omega

/-- What the iterator tells of a way that it hands over. -/
def WG (x : Value × List Int) (f : Nat → Prop) (W : World) : Prop := Reads W x.1 (ints x.2) ∧ (∀ k, x.1.ownBlock = some k → ¬ f k) ∧ 0 < x.2.length ∧ x.2.length ≤ 10

theorem ways1 (n l Bn Bm M : Nat) (ss : List Stm) (v : Value) (w W : World) (hp : procOk ss = true) (hM : M ≤ 9) (hv : Reads3 w v ss) (hw : Below w.heap.size w W) (hBn : W.heap[Bn]? = some (.cells #[v] 26 (0, 0))) (hBn' : w.heap.size ≤ Bn)
    (hBm : W.heap[Bm]? = some (.cells #[.int .i64 M] 2 (0, 0)))
    (J Jx : List (Value × List Int) → (Nat → Prop) → World → Prop) (hJ : FootAbides W.heap.size J) (f : Nat → Prop) (hPf : ∀ r, f r → w.heap.size ≤ r ∧ r ≠ Bn) (hflt : ∀ r, f r → r < W.heap.size)
    (hY : ∀ pre x f W1, J pre f W1 → WG x f W1 → pre.length < 5000 → YieldAt Fence.wide (n - 1) Try.prog l #[x.1] W1 fun e W' =>
      (e = .returned (.bool true) ∧ ∃ f', Outside f W1 f' W' ∧ J (pre ++ [x]) f' W') ∨ (e = .returned (.bool false) ∧ ∃ f', Outside f W1 f' W' ∧ Jx (pre ++ [x]) f' W'))
    (h0 : J [] f W) :
    CallsIn Fence.wide n Try.prog 38 #[.func (.yield l) #[] #[], .pointer (some ⟨Bm, 0, none⟩), .pointer (some ⟨Bn, 0, none⟩)] W fun e W' => (∃ v, e = .returned v) ∧
      ((∃ xs f', xs.map (·.2) = allTo ss M ∧ J xs f' W') ∨ (∃ pre f', True ∧ Jx pre f' W')) := by
  obtain ⟨i0, hi, hz0, hz1, hz2⟩ := info_parts infoInt
  obtain ⟨i1, hjS, hy0, hy1, hy2⟩ := info_parts infoSlice
  obtain ⟨_, h12, _⟩ := procOk_parts hp
  have BnB := (Array.getElem?_eq_some_iff.1 hBn).1
  have BmB := (Array.getElem?_eq_some_iff.1 hBm).1
  refine callsIn_of_wp Try.func38 rfl trivial ?_ rfl
  simp only [Try.ntmps38, List.size_toArray, List.length_cons, List.length_nil, Nat.reduceAdd, Nat.reduceSub, Array.replicate_succ, Array.replicate_zero, List.push_toArray, List.append_toArray, List.nil_append, List.cons_append]
  have g0 : W.grownBy ((W.alloc (.cells #[.int .i64 0] 2)).alloc (.cells #[.slice (some ⟨W.heap.size, 0, none⟩) 1 1] 31)) none := grown_trans (World.grownBy_alloc W _ none) (World.grownBy_alloc _ _ none)
  have hcm : ((W.alloc (.cells #[.int .i64 0] 2)).alloc (.cells #[.slice (some ⟨W.heap.size, 0, none⟩) 1 1] 31)).cell? ⟨Bm, 0, none⟩ = some (.int .i64 M) := (one_cell ((g0.block Bm BmB (by simp)).trans hBm)).1
  have S0 : WI v w W.heap.size Bn J [] f (.slice (some ⟨W.heap.size + 1, 0, none⟩) 1 1) [.slice (some ⟨W.heap.size, 0, none⟩) 1 1] (levs ss 0) (.slice none 0 0) [] [] ((W.alloc (.cells #[.int .i64 0] 2)).alloc (.cells #[.slice (some ⟨W.heap.size, 0, none⟩) 1 1] 31)) := by
    have o1 : (W.alloc (.cells #[.int .i64 0] 2)).ownsRow W.heap.size 2 1 (.slice (some ⟨W.heap.size, 0, none⟩) 1 1) ([0] : List Int).length (ints [0]) := World.ownsRow_lit (base := W.heap.size) (e := 2) (size := 1) W #[.int .i64 0] 1 (Nat.le_refl _) (by decide) (by simp)
    have o2 := World.ownsRow_lit (base := W.heap.size) (e := 31) (size := 1) (W.alloc (.cells #[.int .i64 0] 2)) #[.slice (some ⟨W.heap.size, 0, none⟩) 1 1] 1 (by simp) (by decide) (by simp)
    have hs1 : (W.alloc (.cells #[.int .i64 0] 2)).heap.size = W.heap.size + 1 := by simp
    rw [hs1] at o2
    refine ⟨⟨o2, fun j u xs hj hx => ?_⟩, ⟨⟨rfl, .inl ⟨rfl, rfl⟩⟩, fun j u xs h => by simp at h⟩, fun k _ e => by simp [Value.ownBlock] at e, hJ _ _ _ _ none h0 g0 (by simp), fun r hr => Nat.lt_of_lt_of_le (hflt r hr) g0.size, fun r hr hf => by have := (hPf r hf).1; omega, fun hf => (hPf Bn hf).2 rfl, fun k hk hf => ?_, fun u hu k hk hf => ?_, fun k e => by simp [Value.ownBlock] at e, fun u hu => by simp at hu, hw.grown g0 hw.size (by simp), (g0.block Bn BnB (by simp)).trans hBn⟩
    · cases j with
      | zero =>
        simp [levs] at hj hx
        subst hj hx
        exact o1.alloc _
      | succ j => simp at hj
    · simp [Value.ownBlock] at hk
      have := hflt k hf
      omega
    · simp at hu
      subst hu
      simp [Value.ownBlock] at hk
      have := hflt k hf
      omega
  gi_wp2
  gi_loopw [4, 13] (fun av i wr => ∃ (m : Nat) (pre : List (Value × List Int)) (us : List Value) (f : Nat → Prop), m ≤ M ∧ i = .int .i64 m ∧ pre.map (·.2) = allTo ss m ∧ WI v w W.heap.size Bn J pre f av us (levs ss m) (.slice none 0 0) [] [] wr) (fun _ i _ => M - (intOf i).toNat)
  case atStart => exact ⟨0, [], _, f, Nat.zero_le _, rfl, rfl, S0⟩
  case round =>
    obtain ⟨m, pre, us, f, hm, rfl, hpre, hS⟩ := hrel
    clear S0 hcm g0
    have HS : Hid _ := hS
    have HP : Hid _ := hpre
    have hll := levs_small ss m (by omega)
    obtain ⟨ao, ac, hav⟩ : ∃ ao ac, u4 = .slice ao (levs ss m).length ac := by
      rcases hS.a.row.2 with ⟨h, h2⟩ | ⟨g, c, cur, h, _⟩
      · exact ⟨none, 0, by rw [h, h2]⟩
      · exact ⟨_, _, h⟩
    subst hav
    clear hS hpre
    by_cases hlt : m < M
    · have hlt' : (m : Int) < (M : Int) := by omega
      gi_wp2
      gi_loopw [5, 17] (fun lv i wr => ∃ (c : Nat) (pre : List (Value × List Int)) (ns : List Value) (f : Nat → Prop), c ≤ (levs ss m).length ∧ i = .int .i64 c ∧ pre.map (·.2) = allTo ss m ++ (levs ss m).take c ∧ WI v w W.heap.size Bn J pre f (.slice ao (levs ss m).length ac) us (levs ss m) lv ns (nTo' ss m c) wr) (fun _ i _ => (levs ss m).length - (intOf i).toNat)
      case atStart => exact ⟨0, pre, [], f, Nat.zero_le _, rfl, by rw [List.take_zero, List.append_nil]; exact HP.out, HS.out⟩
      case round =>
        obtain ⟨c, pre, ns, f, hc, rfl, hpre, hS⟩ := hrel
        clear HS HP
        have HS : Hid _ := hS
        have HP : Hid _ := hpre
        clear hS hpre
        by_cases hlt2 : c < (levs ss m).length
        · have hlt2' : (c : Int) < ((levs ss m).length : Int) := by omega
          obtain ⟨ga, hga⟩ : ∃ ga, ao = some ⟨ga, 0, none⟩ := by
            rcases HS.out.a.row.2 with ⟨h, h2⟩ | ⟨g, cp, cur, h, _⟩
            · omega
            · simp at h; exact ⟨g, h.1⟩
          subst hga
          obtain ⟨u, hu, hcell, hown⟩ := HS.out.a.at hlt2
          obtain ⟨way, hway⟩ : ∃ way, (levs ss m)[c] = way := ⟨_, rfl⟩
          have hmem : way ∈ levs ss m := by rw [← hway]; exact List.getElem_mem hlt2
          obtain ⟨hwl, j, hj, hjl⟩ := levs_mem hp m way hmem
          rw [hway] at hown
          have hwayq : (levs ss m)[c]? = some way := by rw [List.getElem?_eq_getElem hlt2, hway]
          obtain ⟨gc, cc, rfl⟩ : ∃ gc cc, u = .slice (some ⟨gc, 0, none⟩) (m + 1) cc := by
            rcases hown.2 with ⟨_, h2⟩ | ⟨g, cp, cur, h, _⟩
            · omega
            · exact ⟨g, cp, by rw [h, hwl]⟩
          have hplen : pre.length < 5000 := by
            have h1 := congrArg List.length HP.out
            rw [List.length_map, List.length_append, List.length_take] at h1
            have := allTo_len ss m (by omega)
            omega
          obtain ⟨fn, tmps, assign, body, hy, hR⟩ := hY pre (.slice (some ⟨gc, 0, none⟩) (m + 1) cc, way) f wr HS.out.j ⟨reads_own hown, HS.out.ia _ (List.mem_of_getElem? hu), by show 0 < way.length; omega, by show way.length ≤ 10; omega⟩ hplen
          have HU : Hid _ := hu
          have HWQ : Hid _ := hwayq
          have HWAY : Hid _ := hway
          clear hown hu hwayq hway hmem
          gi_wp2
          refine ⟨fun h => absurd h (by decide), ?_⟩
          refine hR.mono ?_
          rintro e W3 (⟨rfl, f3, hO, hJ3⟩ | ⟨rfl, f3, hO, hJx3⟩)
          case inr =>
            gi_wp2
            refine bodyPost_ret (results_none rfl _ _ _) rfl ?_
            exact ⟨⟨_, rfl⟩, .inr ⟨_, f3, trivial, hJx3⟩⟩
          have N3 := HS.out.round hO hJ3
          have H3 : Hid _ := N3
          have hown3 := N3.a.each c _ way HU.out HWQ.out
          have clast : W3.cell? ⟨gc, m, none⟩ = some (.int .i64 (j : Int)) := by
            rw [hwl] at hown3
            rw [hown3.cellAt m (by omega)]
            have e1 : way.getD (way.length - 1) 0 = (j : Int) := hj
            rw [hwl] at e1
            have hml : m < way.length := by omega
            simp [List.getD, hml] at e1
            simp [ints, hml, e1]
          have hnx := fun (W : World) (hW : Below W3.heap.size W3 W) => nextsOf ss j v W hjl h12 (reads3_below hv (H3.out.bl.trans (hW.mono H3.out.bl.size)))
          have hmix : Try.prog.follows .mixedOrders = true := by kernel_rfl
          obtain ⟨c0, fz0⟩ := one_cell N3.bx
          clear hy hR hO hJ3 N3 hown3 HS hcell
          gi_wp2
          have wb0 : IntKind.i64.wrap ((m : Int) + 1 - 1) = (m : Int) := by
            have e : (m : Int) + 1 - 1 = (m : Int) := by omega
            rw [e]; simp [IntKind.wrap, IntKind.bits, IntKind.signed]; omega
          have wb1 : IntKind.i64.wrap (((m + 1 : Nat) : Int) - 1) = (m : Int) := by
            have e : (((m + 1 : Nat) : Int) - 1) = (m : Int) := by omega
            rw [e]; simp [IntKind.wrap, IntKind.bits, IntKind.signed]; omega
          have wb2 : IntKind.i64.wrap (m : Int) = (m : Int) := by
            simp [IntKind.wrap, IntKind.bits, IntKind.signed]; omega
          have wb3 : (m : Int) < ((m + 1 : Nat) : Int) := by omega
          have wb4 : (m : Int) < (m : Int) + 1 := by omega
          have wb5 : (0 : Int) ≤ (m : Int) := by omega
          have wb6 : m < m + 1 := by omega
          gi_region_with_o (refine ⟨trivial, fun h => absurd h (by decide), ?_⟩; refine (callsIn_wide.2 (hnx _ (by go_grown))).mono ?_; rintro e W4 ⟨un, rfl, own4, b4⟩; obtain ⟨ua, unn, uc, rfl⟩ := own_slice own4)
          all_goals
            have b34 : Below W3.heap.size W3 W4 := Below.trans (by go_grown) b4
            have HNX : Hid (nextsS ss[j] j = nx ss j) := (nx_eq hjl).symm
            have hxl : (nx ss j).length ≤ 2 := by unfold nx; exact nextsS_length _ _
            have hB3 : W.heap.size ≤ W3.heap.size := by
              have := (H3.out.a.row.lt ga rfl)
              omega
            rw [HNX.out] at own4
            have hun : unn = (nx ss j).length := by
              obtain ⟨_, _, e, _⟩ := reads_own own4
              rw [ints_length] at e
              simp at e
              exact e.2.1
            subst hun
            have hgw : grow1 ss way = (nx ss j).map (fun y => way ++ [y]) := by unfold grow1; rw [hj]; rfl
            have H4 : Hid _ := H3.out.grow hJ (grown_of_below b34 none)
            have O4 : Hid _ := own_mono own4 (base' := W.heap.size) (by show W.heap.size ≤ W3.heap.size; exact hB3)
            clear own4 b4 b34 H3 hnx c0 fz0 clast
            gi_wp2
            gi_loopw [5, 34] (fun lv i wr => ∃ (k : Nat) (ns : List Value), k ≤ (nx ss j).length ∧ i = .int .i64 k ∧ WI v w W.heap.size Bn J (pre ++ [(.slice (some ⟨gc, 0, none⟩) (m + 1) cc, way)]) f3 (.slice (some ⟨ga, 0, none⟩) (levs ss m).length ac) us (levs ss m) lv ns (nTo' ss m c ++ (grow1 ss way).take k) wr ∧ wr.ownsRow W.heap.size 2 1 (.slice ua (nx ss j).length uc) (nx ss j).length (ints (nx ss j))) (fun _ i _ => (nx ss j).length - (intOf i).toNat)
            case atStart => exact ⟨0, ns, Nat.zero_le _, rfl, by rw [List.take_zero, List.append_nil]; exact H4.out, O4.out⟩
            case round =>
              obtain ⟨k, ns, hk, rfl, hS, hN⟩ := hrel
              clear H4 O4
              have HS : Hid _ := hS
              have HN : Hid (wr.ownsRow W.heap.size 2 1 (.slice ua (nx ss j).length uc) (nx ss j).length (ints (nx ss j))) := hN
              by_cases hlt3 : k < (nx ss j).length
              · have hlt3' : (k : Int) < ((nx ss j).length : Int) := by omega
                obtain ⟨gx, hgx⟩ : ∃ gx, ua = some ⟨gx, 0, none⟩ := by
                  rcases hN.2 with ⟨h, h2⟩ | ⟨g, cp, cur, h, _⟩
                  · omega
                  · simp at h; exact ⟨g, h.1⟩
                subst hgx
                obtain ⟨y, hy⟩ : ∃ y, (nx ss j)[k] = y := ⟨_, rfl⟩
                have cy : wr.cell? ⟨gx, k, none⟩ = some (.int .i64 y) := by
                  rw [hN.cellAt k (by omega)]
                  simp [ints, hlt3, hy]
                have HNT : Hid (nTo' ss m c ++ (grow1 ss way).take (k + 1) = (nTo' ss m c ++ (grow1 ss way).take k) ++ [way ++ [y]]) := by
                  show nTo' ss m c ++ (grow1 ss way).take (k + 1) = _
                  have hkl : k < (grow1 ss way).length := by rw [hgw, List.length_map]; exact hlt3
                  rw [List.take_succ_eq_append_getElem hkl, ← List.append_assoc]
                  congr 2
                  simp [hgw, hy]
                have hzl : (nTo' ss m c ++ (grow1 ss way).take k).length ≤ 2000 := by
                  have h1 := flat_len ss ((levs ss m).take c)
                  have h2 : ((levs ss m).take c).length ≤ 512 := by rw [List.length_take]; omega
                  have h3 : (nTo' ss m c).length ≤ 1024 := by unfold nTo'; omega
                  have h4 := grow1_len ss way
                  rw [List.length_append, List.length_take]
                  omega
                have oway := hS.a.each c _ way HU.out HWQ.out
                have hcl := sliceClone way (.slice (some ⟨gc, 0, none⟩) (m + 1) cc) wr (by omega) (by omega) (reads_own oway)
                have hBw : W.heap.size ≤ wr.heap.size := by have := (hS.a.row.lt ga rfl); omega
                clear hS hN hy oway
                generalize hyy : nTo' ss m c ++ (grow1 ss way).take k = zs at *
                clear hyy
                gi_wp2
                refine ⟨trivial, fun h => absurd h (by decide), ?_⟩
                refine (callsIn_wide.2 hcl).mono ?_
                rintro e w5 ⟨g1, cap1, rfl, own5, b5⟩
                clear hcl cy
                have S5 : Hid _ := HS.out.grow hJ (grown_of_below b5 none)
                have N5 : Hid (w5.ownsRow W.heap.size 2 1 (.slice (some ⟨gx, 0, none⟩) (nx ss j).length uc) (nx ss j).length (ints (nx ss j))) := own_kept HN.out b5
                have hlt1 := own5.lt g1 rfl
                have hs5 := b5.size
                have F1 : Hid _ := HS.out.fresh g1 hlt1.1 hBw
                have hgxl : gx < wr.heap.size := (World.ownsRow.lt HN.out gx rfl).2
                rw [hwl] at own5 ⊢
                have O5 : Hid (w5.ownsRow W.heap.size 2 1 (.slice (some ⟨g1, 0, none⟩) (m + 1) cap1) (m + 1) (ints way)) := own_mono own5 hBw
                have hwlen : (zs.length + 1) * 24 ≤ 140737488355328 := by omega
                have hwmax : zs.length + 1 ≤ maxLen := by unfold maxLen; omega
                clear own5
                gi_wp2_with (first
                  | (gi_at_builtin; refine wpListIn_append_lies _ rfl (.tmp 40) (.tmp 42) 31 rfl W.heap.size 2 i0 (.int .i64 0) 1 8 Try.underlying31 hi hz0 hz1 hz2 rfl (by decide) (.slice (some ⟨g1, 0, none⟩) (m + 1) cap1) (m + 1) (ints way) rfl (O5.out.alloc _) ⟨w5.heap.size, 0, none⟩ 1 1 [.int .i64 y] rfl rfl (cell_one w5 y) (ints_oneCell [y]) (by omega) (by unfold maxLen; omega) (by omega) (by simp; omega) ?_; intro g2 c2 w6 own6 grow6 hat6 hlt6; have HO6 : Hid _ := own6; have HG6 : Hid _ := grow6; have HAT6 : Hid _ := hat6; have hsz6 := grow6.size; clear own6 grow6 hat6; have S6 : Hid _ := WI.inner (gv := .slice (some ⟨g1, 0, none⟩) (m + 1) cap1) hJ hw.size BnB (S5.out.grow hJ (World.grownBy_alloc w5 (.cells #[.int .i64 y] 2) none)) HG6.out (fun k e => by simp [Value.ownBlock] at e; subst e; exact F1.out))
                  | (gi_at_builtin; refine wpListIn_append_lies _ rfl (.tmp 38) (.tmp 44) 29 rfl W.heap.size 31 i1 (.slice none 0 0) 1 24 Try.underlying29 hjS hy0 hy1 hy2 rfl (by decide) u5 zs.length ns rfl (S6.out.l.row.alloc _) ⟨w6.heap.size, 0, none⟩ 1 1 [.slice (some ⟨g2, 0, none⟩) (m + 1 + 1) c2] rfl rfl (World.news_of_block (heap_alloc_new w6 _)) (fun u hu => by simp at hu; subst hu; rfl) (by omega) hwmax hwlen (by simp at hsz6 ⊢; omega) ?_; intro g3 c3 w7 own7 grow7 hat7 hlt7)
                  | gi_in)
                have hwy : (way ++ [y]).length = m + 1 + 1 := by rw [List.length_append, hwl]; rfl
                have O6 : w6.ownsRow W.heap.size 2 1 (.slice (some ⟨g2, 0, none⟩) (m + 1 + 1) c2) (way ++ [y]).length (ints (way ++ [y])) := by
                  rw [hwy, show ints (way ++ [y]) = ints way ++ [.int .i64 y] from by simp [ints]]
                  exact HO6.out
                have huf : ∀ k, (Value.slice (some ⟨g2, 0, none⟩) (m + 1 + 1) c2).ownBlock = some k → ¬ f3 k := by
                  intro k hk hf
                  simp [Value.ownBlock] at hk
                  subst hk
                  rcases HAT6.out with h | h
                  · simp [Value.ownBlock] at h
                    subst h
                    exact F1.out.2.1 hf
                  · have h1 := HS.out.lt _ hf
                    simp at h
                    omega
                have S7 := WI.app hJ hw.size BnB (S6.out.grow hJ (World.grownBy_alloc w6 (.cells #[.slice (some ⟨g2, 0, none⟩) (m + 1 + 1) c2] 31) none)) (O6.alloc _) huf own7 grow7 hat7
                have N6 : w6.ownsRow W.heap.size 2 1 (.slice (some ⟨gx, 0, none⟩) (nx ss j).length uc) (nx ss j).length (ints (nx ss j)) := own_grown (World.ownsRow.alloc N5.out (.cells #[.int .i64 y] 2)) HG6.out (fun q hq e => by simp [Value.ownBlock] at hq e; omega)
                have N7 := row_kept (N6.alloc (.cells #[.slice (some ⟨g2, 0, none⟩) (m + 1 + 1) c2] 31)) (S6.out.l.row.alloc (.cells #[.slice (some ⟨g2, 0, none⟩) (m + 1 + 1) c2] 31)) grow7
                have S8 : Hid _ := S7
                have N8 : Hid _ := N7
                clear S7 N7 N6 O6 own7 grow7 hat7
                go_roundw
                case rel => exact ⟨k + 1, _, by omega, by go_num, by rw [HNT.out]; exact S8.out, N8.out⟩
                case measure => simp [intOf]; omega
              · have hkk : k = (nx ss j).length := by omega
                subst hkk
                have HFN : Hid (nTo' ss m (c + 1) = nTo' ss m c ++ (grow1 ss way).take (nx ss j).length) := by
                  show nTo' ss m (c + 1) = _
                  have e : ((nx ss j).map (fun y => way ++ [y])).length = (nx ss j).length := List.length_map _
                  rw [nTo'_next ss m c hlt2, HWAY.out, hgw, ← e, List.take_length]
                have HPN : Hid ((pre ++ [((.slice (some ⟨gc, 0, none⟩) (m + 1) cc : Value), way)]).map (·.2) = allTo ss m ++ (levs ss m).take (c + 1)) := by
                  show (pre ++ [((.slice (some ⟨gc, 0, none⟩) (m + 1) cc : Value), way)]).map (·.2) = allTo ss m ++ (levs ss m).take (c + 1)
                  rw [List.map_append, HP.out, List.take_succ_eq_append_getElem hlt2, HWAY.out, List.append_assoc]
                  rfl
                clear hS hN
                gi_wp2
                go_roundw
                case rel => exact ⟨c + 1, _, ns, f3, by omega, by go_num, HPN.out, by rw [HFN.out]; exact HS.out⟩
                case measure => simp [intOf]; omega
        · have hcc : c = (levs ss m).length := by omega
          subst hcc
          have HNA : Hid (nTo' ss m (levs ss m).length = levs ss (m + 1)) := nTo'_all ss m
          gi_wp2
          go_roundw
          case rel => exact ⟨m + 1, pre, ns, f, by omega, by go_num, by rw [HP.out, List.take_length]; rfl, by rw [← HNA.out]; exact HS.out.turn⟩
          case measure => simp [intOf]; omega
    · have hmm : m = M := by omega
      subst hmm
      gi_wp2
      go_end0
      exact ⟨⟨_, rfl⟩, .inl ⟨pre, f, HP.out, HS.out.j⟩⟩

end Go.Proofs.Ytjlfmjoallnojab
