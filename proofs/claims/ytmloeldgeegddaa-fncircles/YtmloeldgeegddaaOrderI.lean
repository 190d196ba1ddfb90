/-
  impl.Order: the groups one behind the other.
-/
import Derived.Test.YtmloeldgeegddaaOrderGo
import Derived.Test.YtmloeldgeegddaaDeleteG
namespace Go.Proofs.Ytmloeldgeegddaa
open Go.RowKit
set_option linter.unusedVariables false
set_option maxHeartbeats 4000000
set_option maxRecDepth 20000

/-- What both answer. -/
def OrdA (ps : List (List Stm)) (o : List (List Nat)) : Prop := (programOk ps = true → ∃ r c, Groups ps r c o) ∧ (programOk ps = false → o = [])

theorem ordA_some (ps : List (List Stm)) : ∃ o, OrdA ps o := by
  cases hb : programOk ps with
  | false => exact ⟨[], by simp [hb], fun _ => rfl⟩
  | true =>
    obtain ⟨r, c, o, h⟩ := groups_of hb
    exact ⟨o, fun _ => ⟨r, c, h⟩, by simp [hb]⟩

theorem foldS_mem (n : Nat) (r : Nat → Nat → Bool) : ∀ (k : Nat) (g : List Nat), g ∈ (List.range k).foldl (stepS n r) [] → ∃ i, i < k ∧ g = grp n r i
  | 0, g, h => by simp at h
  | k + 1, g, h => by
    rw [List.range_succ, List.foldl_append] at h
    have h : g ∈ stepS n r ((List.range k).foldl (stepS n r) []) k := h
    unfold stepS at h
    cases hb : Nat.beq (hd (grp n r k)) k
    · rw [hb] at h
      obtain ⟨i, hi, e⟩ := foldS_mem n r k g h
      exact ⟨i, by omega, e⟩
    · rw [hb] at h
      simp only [cond, List.mem_append, List.mem_singleton] at h
      rcases h with h | h
      · obtain ⟨i, hi, e⟩ := foldS_mem n r k g h
        exact ⟨i, by omega, e⟩
      · exact ⟨k, by omega, h⟩

theorem groups_each {ps : List (List Stm)} {r : Nat → Nat → Bool} {c o : List (List Nat)} (hG : Groups ps r c o) {g : List Nat} (hg : g ∈ c) : g ≠ [] ∧ hd g < ps.length := by
  have hg' : g ∈ (List.range ps.length).foldl (stepS ps.length r) [] := by
    have := hG.circ
    unfold circS at this
    rw [this]; exact hg
  obtain ⟨i, hi, rfl⟩ := foldS_mem ps.length r ps.length g hg'
  have hm := groups_self hG hi
  have hne : grp ps.length r i ≠ [] := fun e => by rw [e] at hm; simp at hm
  refine ⟨hne, ?_⟩
  have hh : hd (grp ps.length r i) ∈ grp ps.length r i := by
    unfold hd
    exact mem_getD' (by cases h : grp ps.length r i with | nil => exact absurd h hne | cons _ _ => simp)
  have h2 : hd (grp ps.length r i) ∈ List.range ps.length := (List.mem_filter.1 hh).1
  exact List.mem_range.1 h2

theorem ownSS_GR {w : World} {B : Nat} {u : Value} {us : List Value} {c : List (List Nat)} (h : OwnSS w B u us (castLL c)) (ha : ApartSS us) (hne : ∀ g ∈ c, g ≠ []) : ∃ L : List LV, L.map Prod.snd = c ∧ GR w B u L := by
  have hl := h.len
  have hcl : (castLL c).length = c.length := by simp [castLL]
  have e1 : (us.zip c).map Prod.fst = us := List.map_fst_zip (by omega)
  have e2 : (us.zip c).map Prod.snd = c := List.map_snd_zip (by omega)
  refine ⟨us.zip c, e2, ?_, fun x hx => ?_, by rw [e1]; exact ha⟩
  · rw [e1]
    have : (us.zip c).length = (castLL c).length := by rw [List.length_zip]; omega
    rw [this]
    exact h.row
  · obtain ⟨j, hj⟩ := List.getElem?_of_mem hx
    have hx2 : x.2 ∈ c := (List.of_mem_zip (a := x.1) (b := x.2) hx).2
    rw [List.getElem?_zip_eq_some] at hj
    refine ⟨hne _ hx2, ?_⟩
    have := h.each j x.1 (x.2.map (fun y : Nat => (y : Int))) hj.1 (by unfold castLL; rw [List.getElem?_map, hj.2]; rfl)
    simpa [nats] using this

theorem GR.appended {W W' : World} {B : Nat} {gv gv' : Value} {L : List LV} {x : LV} (h : GR W B gv L) (hx0 : x.2 ≠ []) (hx : W.ownsRow B 2 1 x.1 x.2.length (nats x.2)) (hxl : ∀ y ∈ L, ∀ k, y.1.ownBlock = some k → x.1.ownBlock ≠ some k)
    (hg : W.grownBy W' gv.ownBlock) (hr : W'.ownsRow B 30 1 gv' (L.length + 1) (L.map Prod.fst ++ [x.1])) : GR W' B gv' (L ++ [x]) := by
  have keep : ∀ (u : Value) (xs : List Nat), W.ownsRow B 2 1 u xs.length (nats xs) → W'.ownsRow B 2 1 u xs.length (nats xs) := fun u xs ho => own_same ho (fun k hk => hg.block k (ho.lt k hk).2 (fun e => row_kind ho h.row (by decide) hk e.symm))
  refine ⟨by rw [List.length_append, List.map_append]; exact hr, fun y hy => ?_, ?_⟩
  · rcases List.mem_append.1 hy with hy | hy
    · exact ⟨(h.each y hy).1, keep _ _ (h.each y hy).2⟩
    · obtain rfl : y = x := by simpa using hy
      exact ⟨hx0, keep _ _ hx⟩
  · intro i j a c k hne ha hc hk
    have get : ∀ (i : Nat) (a : Value), ((L ++ [x]).map Prod.fst)[i]? = some a → (i < L.length ∧ (L.map Prod.fst)[i]? = some a ∧ ∃ y ∈ L, y.1 = a) ∨ (i = L.length ∧ a = x.1) := fun i a hi => by
      rw [List.map_append] at hi
      rcases Nat.lt_or_ge i L.length with hl | hl
      · rw [List.getElem?_append_left (by simpa using hl)] at hi
        have hi' := hi
        rw [List.getElem?_map] at hi'
        obtain ⟨y, hy, e⟩ := Option.map_eq_some_iff.1 hi'
        exact .inl ⟨hl, hi, y, List.mem_of_getElem? hy, e⟩
      · rw [List.getElem?_append_right (by simpa using hl)] at hi
        have hlt := (List.getElem?_eq_some_iff.1 hi).1
        simp at hlt
        have e0 : i - (L.map Prod.fst).length = 0 := by simp; omega
        rw [e0] at hi
        simp at hi
        exact .inr ⟨by omega, hi.symm⟩
    rcases get i a ha with ⟨_, ga, y, hy, ey⟩ | ⟨ei, ea⟩ <;> rcases get j c hc with ⟨_, gc, z, hz, ez⟩ | ⟨ej, ec⟩
    · exact h.ap i j a c k hne ga gc hk
    · rw [ec]; exact hxl y hy k (by rw [ey]; exact hk)
    · intro hk'
      rw [ea] at hk
      exact hxl z hz k (by rw [ez]; exact hk') hk
    · omega

theorem orderClosure (ps : List (List Stm)) (r : Nat → Nat → Bool) (c o : List (List Nat)) (hok : programOk ps = true) (hG : Groups ps r c o) (x : LV) (L : List LV) (lv v : Value) (w : World) (P K : Nat) (hl : ps.length ≤ maxLen) (hp : ∀ p ∈ ps, p.length ≤ maxLen) (hv : ReadsP w v ps)
    (hL : L.length ≤ 4) (hg0 : x.2 ≠ []) (hgl : hd x.2 < ps.length) (hgr : Reads w x.1 (nats x.2)) (hlr : ReadsL w lv L) (hP : w.heap[P]? = some (.cells #[v] 26 (0, 0))) (hK : w.heap[K]? = some (.cells #[lv] 52 (0, 0))) :
    Calls Try.prog 85 #[x.1, .pointer (some ⟨P, 0, none⟩), .pointer (some ⟨K, 0, none⟩)] w fun e w' => e = .returned (.bool (noOther r (L.map Prod.snd) x.2)) ∧ Below w.heap.size w w' := by
  have hcal := callsNoOther ps r c o hok hG x.2 L x.1 lv v w hl hp hv hL hg0 hgl hgr hlr
  obtain ⟨cP, _⟩ := one_cell hP
  obtain ⟨cK, _⟩ := one_cell hK
  obtain ⟨la, lc, hlv, _⟩ := id hlr
  obtain ⟨xa, xc, hxv, _⟩ := id hgr
  generalize noOther r (L.map Prod.snd) x.2 = B at *
  obtain ⟨x1, x2⟩ := x
  simp only at hxv hcal ⊢
  subst hlv hxv
  clear hgr hlr hP hK hG
  go_enter Try.func85, Try.ntmps85
  go_wp2_with fail
  go_at_call 86
  refine hcal.mono ?_
  rintro e w2 ⟨rfl, b2⟩
  go_wp2
  go_ret
  exact ⟨rfl, b2⟩

/-- The state of impl.Order. -/
structure OSt (ps : List (List Stm)) (v : Value) (w : World) (r : Nat → Nat → Bool) (o : List (List Nat)) (K : Nat) (lv ov : Value) (L Lo : List LV) (f : Nat) (W : World) : Prop where
  box : W.heap[w.heap.size]? = some (.cells #[v] 26 (0, 0))
  lft : W.heap[K]? = some (.cells #[lv] 52 (0, 0))
  kge : w.heap.size < K
  gl : GR W (w.heap.size + 1) lv L
  go : GR W (w.heap.size + 1) ov Lo
  ap : ∀ x ∈ L, ∀ y ∈ Lo, ∀ k, x.1.ownBlock = some k → y.1.ownBlock ≠ some k
  rows : ∀ k, lv.ownBlock = some k → ov.ownBlock ≠ some k
  sum : Lo.map Prod.snd ++ ordI r f (L.map Prod.snd) = o
  len : (ordI r f (L.map Prod.snd)).length = L.length
  tot : L.length + Lo.length ≤ 4
  hds : ∀ x ∈ L, hd x.2 < ps.length
  below : Below w.heap.size w W

theorem GR.below {W W' : World} {B : Nat} {gv : Value} {L : List LV} (h : GR W B gv L) (hb : Below W.heap.size W W') : GR W' B gv L :=
  h.same (fun k hk => hb.block k (h.row.lt k hk).2) (fun x hx k hk => hb.block k ((h.each x hx).2.lt k hk).2)

theorem OSt.kept {ps : List (List Stm)} {v : Value} {w : World} {r : Nat → Nat → Bool} {o : List (List Nat)} {K : Nat} {lv ov : Value} {L Lo : List LV} {f : Nat} {W W' : World} (h : OSt ps v w r o K lv ov L Lo f W) (hb : Below W.heap.size W W') : OSt ps v w r o K lv ov L Lo f W' :=
  ⟨(hb.block _ (Array.getElem?_eq_some_iff.1 h.box).1).trans h.box, (hb.block _ (Array.getElem?_eq_some_iff.1 h.lft).1).trans h.lft, h.kge, h.gl.below hb, h.go.below hb, h.ap, h.rows, h.sum, h.len, h.tot, h.hds, h.below.trans (hb.mono h.below.size)⟩

/-- The next one. -/
theorem ord_next {r : Nat → Nat → Bool} {f : Nat} {left : List (List Nat)} (hl : (ordI r f left).length = left.length) (h0 : 0 < left.length) : ∃ f' i, f = f' + 1 ∧ i < left.length ∧ fidx (noOther r left) left = i ∧ left.any (noOther r left) = true ∧ ordI r f left = left.getD i [] :: ordI r f' (left.eraseIdx i) ∧ (ordI r f' (left.eraseIdx i)).length = (left.eraseIdx i).length := by
  cases f with
  | zero =>
    have : (ordI r 0 left).length = 0 := rfl
    omega
  | succ f =>
    cases hb : Nat.blt (fidx (noOther r left) left) left.length
    · have e : ordI r (f + 1) left = [] := by
        show (bif Nat.blt (fidx (noOther r left) left) left.length then _ else _) = _
        rw [hb]; rfl
      rw [e] at hl
      simp at hl
      omega
    · have e : ordI r (f + 1) left = left.getD (fidx (noOther r left) left) [] :: ordI r f (left.eraseIdx (fidx (noOther r left) left)) := by
        show (bif Nat.blt (fidx (noOther r left) left) left.length then _ else _) = _
        rw [hb]; rfl
      have hlt : fidx (noOther r left) left < left.length := Nat.le_of_ble_eq_true hb
      refine ⟨f, _, rfl, hlt, rfl, ?_, e, ?_⟩
      · cases ha : left.any (noOther r left) with
        | true => rfl
        | false => have := fidx_none ha; omega
      · rw [e] at hl
        simp only [List.length_cons] at hl
        rw [List.length_eraseIdx_of_lt hlt]
        omega

end Go.Proofs.Ytmloeldgeegddaa
