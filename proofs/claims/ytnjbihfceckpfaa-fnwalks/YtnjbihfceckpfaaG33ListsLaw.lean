/-
 Put together out of: WalksM, WalksN, ListsLaw.
-/
import Derived.Test.YtnjbihfceckpfaaG32EntM
import Derived.Test.YtnjbihfceckpfaaG20Lists
import Derived.Deep.RegionHeld3
import Derived.Deep.DrawnRows
/-
 Chapter 12, mathematics: what holds along a walk is among the facts of its last place, and fact 0 always holds.
-/
namespace Go.Proofs.Ytnjbihfceckpfaa
open Go.RowKit
set_option linter.unusedVariables false
set_option maxHeartbeats 1000000

section
variable {c : Int} {ps : List (List Stm)} {T : List (List Int)} {I : Nat → Nat → List Int} {E : List Int}

/-- The relations ahead of each statement, with T as tables. -/
def InT (c : Int) (ps : List (List Stm)) (T : List (List Int)) (I : Nat → Nat → List Int) : Prop :=
 ∀ a (ha : a < ps.length), ∃ R, IsInner (effN c T ps[a]) ps[a] R ∧ ∀ k, k < ps[a].length → I a k = R.getD k []

theorem img_subR {xs ys : List Int} (hx : Smalls xs) (hy : Smalls ys) (h : SubR xs ys) (s : Int) : Sub (img xs s) (img ys s) := fun t ht => by
 obtain ⟨i, hi, h1, h2⟩ := (bit_img hx s t).1 ht
 exact (bit_img hy s t).2 ⟨i, hi, h1, h i t h2⟩

theorem getD_ps {a : Nat} (ha : a < ps.length) : ps.getD a [] = ps[a] := by simp [List.getD, ha]

theorem stW_get {a k : Nat} (ha : a < ps.length) (hk : k < ps[a].length) : stW ps a k = ps[a][k] := by
 unfold stW
 rw [getD_ps ha]
 simp [List.getD, hk]

theorem InT.good (h : InT c ps T I) {a k : Nat} (ha : a < ps.length) (hk : k < ps[a].length) : Smalls (I a k) := by
 obtain ⟨R, hR, hI⟩ := h a ha
 rw [hI k hk]
 exact hR.good k hk

/-- A step within a procedure. -/
theorem InT.step (h : InT c ps T I) (hc : c = 1 ∨ c = 2) (hp : CanP ps) (hT : GoodN ps.length T) {a k : Nat} (ha : a < ps.length) (hk : k < ps[a].length) {x : Nat} (hx : (x : Int) ∈ nextsS (stW ps a k) k) (hxl : x < ps[a].length) {s y : Int} (hy : Sub y (img (effL c T (stW ps a k)) (img (I a k) s))) :
 Sub y (img (I a x) s) := by
 obtain ⟨R, hR, hI⟩ := h a ha
 rw [stW_get ha hk] at hx hy
 have h1 := hR.clo.2 k hk (x : Int) hx
 rw [effN_eq hk, Int.toNat_natCast] at h1
 have he := effN_smalls hc hp hT ha hk
 rw [effN_eq hk] at he
 have hg := hR.good k hk
 rw [hI x hxl]
 rw [hI k hk, ← img_comp hg he] at hy
 exact hy.trans (img_subR (comp_smalls hg he) (hR.good x hxl) h1 s)

theorem InT.unit (h : InT c ps T I) {a : Nat} (ha : a < ps.length) (h1 : 0 < ps[a].length) {s : Int} (hs : Small s) : Sub s (img (I a 0) s) := by
 obtain ⟨R, hR, hI⟩ := h a ha
 have h2 := img_subR (relOk_iff.1 (by decide)) (hR.good 0 h1) hR.clo.1 s
 rw [img_unit hs] at h2
 rw [hI 0 h1]
 exact h2

theorem backsK_has {ss : List Stm} {R : List (List Int)} (hR : GoodN ss.length R) {i : Nat} (h9 : (ss.getD i ⟨0, 0, 0⟩).k = 9) : ∀ k, i < k → k ≤ ss.length → SubR (R.getD i []) (backsK ss R k)
 | 0, h, _ => by omega
 | k + 1, h, hk => by
  rw [backsK]
  have hb := backsK_smalls hR k (by omega)
  by_cases e : i = k
  · subst e
    rw [if_pos h9]
    intro j t ht
    rw [bit_joi hb (hR i (by omega)), ht, Bool.or_true]
  · have ih := backsK_has hR h9 k (by omega) (by omega)
    split
    · intro j t ht
      rw [bit_joi hb (hR k (by omega)), ih j t ht, Bool.true_or]
    · exact ih

/-- What holds ahead of a way back is in the table. -/
theorem InT.back (h : InT c ps T I) (hT : IsTables c ps T) {a k : Nat} (ha : a < ps.length) (hk : k < ps[a].length) (h9 : (stW ps a k).k = 9) (s : Int) : Sub (img (I a k) s) (img (T.getD a []) s) := by
 obtain ⟨R, hR, hI⟩ := h a ha
 obtain ⟨R', hR', hB⟩ := hT.self a ha
 rw [hI k hk, hR.uniq hR' hk]
 refine img_subR (hR'.good k hk) (hT.good a ha) ?_ s
 rw [hB]
 refine backsK_has hR'.good ?_ _ hk (Nat.le_refl _)
 rw [stW_get ha hk] at h9
 simpa [List.getD, hk] using h9

/-- The open calls, from procedure q that was entered with e, to p, entered with el. -/
def Chain (c : Int) (ps : List (List Stm)) (I : Nat → Nat → List Int) : Nat → Int → List (Nat × Nat × Int) → Nat → Int → Prop
 | q, e, [], p, el => q = p ∧ e = el
 | q, e, t :: r, p, el => t.1 = q ∧ Sub t.2.2 (img (I q t.2.1) e) ∧ Chain c ps I (stW ps t.1 t.2.1).y.toNat (img (enterAns c) t.2.2) r p el

theorem Chain.snoc : ∀ {op : List (Nat × Nat × Int)} {q : Nat} {e : Int} {p : Nat} {el : Int}, Chain c ps I q e op p el → ∀ {i : Nat} {h : Int}, Sub h (img (I p i) el) →
 Chain c ps I q e (op ++ [(p, i, h)]) (stW ps p i).y.toNat (img (enterAns c) h)
 | [], q, e, p, el, hc, i, h, hs => by
  obtain ⟨rfl, rfl⟩ := hc
  exact ⟨rfl, hs, rfl, rfl⟩
 | t :: r, q, e, p, el, hc, i, h, hs => ⟨hc.1, hc.2.1, Chain.snoc hc.2.2 hs⟩

theorem Chain.unsnoc : ∀ {op : List (Nat × Nat × Int)} {t : Nat × Nat × Int} {q : Nat} {e : Int} {p : Nat} {el : Int}, Chain c ps I q e (op ++ [t]) p el →
 ∃ ej, Chain c ps I q e op t.1 ej ∧ Sub t.2.2 (img (I t.1 t.2.1) ej) ∧ p = (stW ps t.1 t.2.1).y.toNat ∧ el = img (enterAns c) t.2.2
 | [], t, q, e, p, el, hc => by
  obtain ⟨h1, h2, h3, h4⟩ := hc
  subst h1
  exact ⟨e, ⟨rfl, rfl⟩, h2, h3.symm, h4.symm⟩
 | u :: r, t, q, e, p, el, hc => by
  obtain ⟨ej, h1, h2, h3, h4⟩ := Chain.unsnoc hc.2.2
  exact ⟨ej, ⟨hc.1, hc.2.1, h1⟩, h2, h3, h4⟩

/-- Each procedure is entered with what is at its entry. -/
theorem Chain.entry (hI : InT c ps T I) (hc : c = 1 ∨ c = 2) (hE : IsEnt c ps I E) : ∀ {op : List (Nat × Nat × Int)} {q : Nat} {e : Int} {p : Nat} {el : Int}, Chain c ps I q e op p el → Sub e (E.getD q 0) →
 (∀ t ∈ op, t.1 < ps.length ∧ t.2.1 + 1 < (ps.getD t.1 []).length ∧ (stW ps t.1 t.2.1).k = 8 ∧ Small t.2.2) → Sub el (E.getD p 0)
 | [], q, e, p, el, h, he, _ => by
  obtain ⟨rfl, rfl⟩ := h
  exact he
 | t :: r, q, e, p, el, h, he, hop => by
  obtain ⟨h1, h2, h3⟩ := h
  subst h1
  obtain ⟨g1, g2, g3, g4⟩ := hop t (by simp)
  rw [getD_ps g1] at g2
  refine Chain.entry hI hc hE h3 ?_ (fun u hu => hop u (by simp [hu]))
  have hk : t.2.1 < ps[t.1].length := by omega
  have h5 := hE.clo.2 t.1 g1 t.2.1 hk (by rw [← stW_get g1 hk]; exact g3)
  rw [← stW_get g1 hk] at h5
  refine Sub.trans ?_ h5
  exact img_mono (enter_smalls hc) (h2.trans (img_mono (hI.good g1 hk) he))

/-- What is so along a walk. -/
def AlongW (c : Int) (ps : List (List Stm)) (I : Nat → Nat → List Int) (s : WS) : Prop := ∃ el, Small el ∧ Chain c ps I 0 (startAns c) s.op s.p el ∧ Sub s.h (img (I s.p s.i) el) ∧ bit s.h 0 = true

theorem img_zeroW {rs : List Int} (hr : Smalls rs) (h0 : bit (rs.getD 0 0) 0 = true) {s : Int} (hs : bit s 0 = true) : bit (img rs s) 0 = true := (bit_img hr s 0).2 ⟨0, by omega, hs, h0⟩

theorem flow_zero {k x y : Int} (h : stmtOk k x y = true) {s : Int} (hs : Small s) (h0 : bit s 0 = true) : bit (img (flowL c k x y) s) 0 = true := by
 obtain ⟨i, rfl, hi⟩ := stmtOk_x6 h
 unfold flowL
 simp only [Int.toNat_natCast]
 split
 · rw [img_other i hi _ _ 0 (by omega) (by omega)]; exact h0
 split
 · rw [img_other i hi _ _ 0 (by omega) (by omega)]; exact h0
 split
 · rw [img_other i hi _ _ 0 (by omega) (by omega)]; exact h0
 split
 · rw [img_other i hi _ _ 0 (by omega) (by omega)]; exact h0
 · rw [img_unit hs]; exact h0

theorem AlongW.go (hI : InT c ps T I) (hc : c = 1 ∨ c = 2) (hp : CanP ps) (hT : IsTables c ps T) {s : WS} {k : Nat} (ho : OkW ps s k) (h : AlongW c ps I s) {p i : Nat} (hn : hasPl (nxW ps s) p i = true) : AlongW c ps I (doW c ps s p i) := by
 obtain ⟨el, hel, hch, hsub, hz⟩ := h
 have hp1 := ho.p
 have hi1 := ho.i
 rw [getD_ps hp1] at hi1
 have hso := ho.ok hp
 obtain ⟨j, hj, ha, hb⟩ := hasN_mem _ hn
 unfold nxW nxS at hj ha hb
 unfold doW opS hS AlongW
 by_cases h8 : (stW ps s.p s.i).k = 8
 · obtain ⟨y, hy, hyl, h1, hil⟩ := ho.call hp h8
   rw [if_pos h8] at hj ha hb
   have hj0 : j = 0 := by simp at hj; omega
   subst hj0
   simp [List.getD] at ha hb
   obtain rfl : p = y := by omega
   obtain rfl : i = 0 := by omega
   rw [if_pos h8, if_pos h8]
   have hs1 : Small (img (enterAns c) s.h) := img_small (enter_smalls hc) _
   rw [getD_ps hyl] at h1
   refine ⟨img (enterAns c) s.h, hs1, ?_, hI.unit hyl (by omega) hs1, img_zeroW (enter_smalls hc) (by rcases hc with rfl | rfl <;> decide) hz⟩
   have := Chain.snoc hch hsub
   rw [hy, Int.toNat_natCast] at this
   exact this
 rw [if_neg h8] at hj ha hb
 rw [if_neg h8, if_neg h8]
 by_cases h9 : (stW ps s.p s.i).k = 9
 · rw [if_pos h9] at hj ha hb
   rw [if_pos h9, if_pos h9]
   unfold lastPl at hj ha hb
   rcases List.eq_nil_or_concat s.op with e | ⟨op', t, e⟩
   · rw [e] at hj; simp at hj
   · rw [List.concat_eq_append] at e
     have elast : s.op.getLast? = some t := by rw [e]; simp
     rw [elast] at hj ha hb
     have hj0 : j = 0 := by simp at hj; omega
     subst hj0
     simp [List.getD] at ha hb
     obtain ⟨g1, g2, g3, g4⟩ := ho.op t (by rw [e]; simp)
     rw [getD_ps g1] at g2
     have hk : t.2.1 < ps[t.1].length := by omega
     obtain rfl : p = t.1 := by omega
     obtain rfl : i = t.2.1 + 1 := by omega
     rw [e] at hch
     obtain ⟨ej, c1, c2, c3, c4⟩ := Chain.unsnoc hch
     have hlk : lastK s.op = t.2.2 := by unfold lastK; rw [elast]
     have hdl : s.op.dropLast = op' := by rw [e]; simp
     rw [hdl, hlk]
     have hbk := hI.back hT hp1 hi1 h9 el
     have hTg := hT.good s.p hp1
     have hej : Small ej := by
      rcases List.eq_nil_or_concat op' with e' | ⟨op2, t2, e'⟩
      · rw [e'] at c1
        rw [← c1.2]; exact start_small hc
      · rw [List.concat_eq_append] at e'
        rw [e'] at c1
        obtain ⟨_, _, _, _, c5⟩ := Chain.unsnoc c1
        rw [c5]; exact img_small (enter_smalls hc) _
     refine ⟨ej, hej, c1, ?_, ?_⟩
     · refine hI.step hc hp hT.good g1 hk (x := t.2.1 + 1) ?_ g2 (s := ej) ?_
       · unfold nextsS
         rw [if_neg (by omega), if_neg (by omega)]
         simp
       · refine Sub.trans ?_ (img_mono ((by have := effN_smalls hc hp hT.good g1 hk; rw [effN_eq hk, ← stW_get g1 hk] at this; exact this)) c2)
         unfold effL
         rw [if_pos g3, img_joi keep_smalls (through_smalls hc (by rw [← c3]; exact hTg))]
         have e1 : img (comp (comp (enterAns c) (T.getD (stW ps t.1 t.2.1).y.toNat [])) leaveL) t.2.2 = img leaveL (img (T.getD s.p []) el) := by
          rw [← c3, img_comp (comp_smalls (enter_smalls hc) hTg) leave_smalls, img_comp (enter_smalls hc) hTg, ← c4]
         rw [e1]
         have s1 : Small (img keepL t.2.2) := img_small keep_smalls _
         have s2 : Small (img leaveL (img (T.getD s.p []) el)) := img_small leave_smalls _
         refine lor_sub (img_small leave_smalls _) s1 ?_ (sub_lor_l s1 s2)
         exact (img_mono leave_smalls (hsub.trans hbk)).trans (sub_lor_r s1 s2)
     · rw [bit_lor (img_small leave_smalls _) (img_small keep_smalls _), img_zeroW leave_smalls (by decide) hz, Bool.true_or]
 · rw [if_neg h9] at hj ha hb
   rw [if_neg h9, if_neg h9]
   rw [pairs_len] at hj
   have hj' : j < (nextsS (stW ps s.p s.i) s.i).length := by omega
   obtain ⟨e1, e2⟩ := pairs_get (s.p : Int) _ j hj'
   obtain ⟨q, hq, hql⟩ := ho.next hp ((nextsS (stW ps s.p s.i) s.i).getD j 0) (by simp [List.getD, hj'])
   obtain rfl : p = s.p := by omega
   obtain rfl : i = q := by omega
   rw [getD_ps hp1] at hql
   have hmem : (i : Int) ∈ nextsS (stW ps s.p s.i) s.i := by rw [← hq]; simp [List.getD, hj']
   refine ⟨el, hel, hch, ?_, flow_zero hso ho.h hz⟩
   refine hI.step hc hp hT.good hp1 hi1 hmem hql (s := el) ?_
   unfold effL
   rw [if_neg h8]
   exact img_mono (flowL_smalls hso) hsub

theorem wk_along (hI : InT c ps T I) (hc : c = 1 ∨ c = 2) (hp : CanP ps) (h1 : 1 ≤ ps.length) (hT : IsTables c ps T) {xs : List Int} : ∀ k s, wk c ps xs k = some s → AlongW c ps I s
 | 0, s, h => by
  unfold wk at h
  obtain rfl := Option.some.inj h
  have hpos : 0 < ps[0].length := by have := (procOk_parts (hp 0 h1).1).1; omega
  exact ⟨startAns c, start_small hc, ⟨rfl, rfl⟩, hI.unit h1 hpos (start_small hc), by rcases hc with rfl | rfl <;> decide⟩
 | k + 1, s, h => by
  unfold wk at h
  cases hk : wk c ps xs k with
  | none => rw [hk] at h; simp at h
  | some s' =>
   rw [hk] at h
   simp only [Option.bind_some] at h
   split at h
   · rename_i hn
     have ho := wk_ok hc hp h1 k s' hk
     obtain ⟨p, i, e1, e2, _⟩ := ho.go hc hp hn
     rw [e1, e2] at h hn
     simp only [Int.toNat_natCast] at h
     obtain rfl := Option.some.inj h
     exact (wk_along hI hc hp h1 hT k s' hk).go hI hc hp hT ho hn
   · cases h

/-- What holds along a walk is among the facts of its last place; fact 0 holds. -/
theorem walk_facts (hI : InT c ps T I) (hc : c = 1 ∨ c = 2) (hp : CanP ps) (h1 : 1 ≤ ps.length) (hT : IsTables c ps T) (hE : IsEnt c ps I E) {xs : List Int} {k : Nat} {s : WS} (h : wk c ps xs k = some s) :
 Sub s.h (img (I s.p s.i) (E.getD s.p 0)) ∧ bit s.h 0 = true := by
 have ho := wk_ok hc hp h1 k s h
 obtain ⟨el, _, hch, hsub, hz⟩ := wk_along hI hc hp h1 hT k s h
 have hi := ho.i
 rw [getD_ps ho.p] at hi
 exact ⟨hsub.trans (img_mono (hI.good ho.p hi) (Chain.entry hI hc hE hch hE.clo.1 ho.op)), hz⟩
end

end Go.Proofs.Ytnjbihfceckpfaa

/-
 Chapter 12, mathematics: where a walk goes hangs on no client; each beginning of a walk is a walk.
-/
namespace Go.Proofs.Ytnjbihfceckpfaa
open Go.RowKit
set_option linter.unusedVariables false
set_option maxHeartbeats 1000000

/-- The same but for what holds. -/
def SameW (s s' : WS) : Prop := s.p = s'.p ∧ s.i = s'.i ∧ s.op.map (fun t => (t.1, t.2.1)) = s'.op.map (fun t => (t.1, t.2.1))

theorem lastPl_map (op : List (Nat × Nat × Int)) : lastPl op = (match (op.map (fun t => (t.1, t.2.1))).getLast? with | none => [] | some t => [(t.1 : Int), (t.2 : Int) + 1]) := by
 unfold lastPl
 rw [List.getLast?_map]
 cases op.getLast? <;> rfl

theorem SameW.nx {ps : List (List Stm)} {s s' : WS} (h : SameW s s') : nxW ps s = nxW ps s' := by
 obtain ⟨h1, h2, h3⟩ := h
 unfold nxW nxS
 rw [h1, h2, lastPl_map s.op, lastPl_map s'.op, h3]

theorem SameW.go {c c' : Int} {ps : List (List Stm)} {s s' : WS} (h : SameW s s') (p i : Nat) : SameW (doW c ps s p i) (doW c' ps s' p i) := by
 obtain ⟨h1, h2, h3⟩ := h
 refine ⟨rfl, rfl, ?_⟩
 unfold doW opS
 rw [h1, h2]
 split
 · simp [h3]
 split
 · rw [List.map_dropLast, List.map_dropLast, h3]
 · exact h3

theorem wk_same (c c' : Int) (ps : List (List Stm)) (xs : List Int) : ∀ k, (wk c ps xs k = none ∧ wk c' ps xs k = none) ∨ ∃ s s', wk c ps xs k = some s ∧ wk c' ps xs k = some s' ∧ SameW s s'
 | 0 => .inr ⟨_, _, rfl, rfl, rfl, rfl, rfl⟩
 | k + 1 => by
  rcases wk_same c c' ps xs k with ⟨h1, h2⟩ | ⟨s, s', h1, h2, h3⟩
  · exact .inl ⟨wk_none h1 (k + 1) (by omega), wk_none h2 (k + 1) (by omega)⟩
  · cases hh : hasPl (nxW ps s) (xs.getD ((k + 1) * 2) 0) (xs.getD ((k + 1) * 2 + 1) 0) with
    | false => exact .inl ⟨wk_no h1 hh, wk_no h2 (by rw [← h3.nx]; exact hh)⟩
    | true =>
     refine .inr ⟨_, _, ?_, ?_, h3.go (c := c) (c' := c') (ps := ps) (xs.getD ((k + 1) * 2) 0).toNat (xs.getD ((k + 1) * 2 + 1) 0).toNat⟩
     · unfold wk
       rw [h1, Option.bind_some, if_pos hh]
     · unfold wk
       rw [h2, Option.bind_some, if_pos (by rw [← h3.nx]; exact hh)]

theorem walkA_isSome (c c' : Int) (ps : List (List Stm)) (xs : List Int) (n : Nat) : (walkA c ps xs n).isSome = (walkA c' ps xs n).isSome := by
 unfold walkA
 split
 · rcases wk_same c c' ps xs (n - 1) with ⟨h1, h2⟩ | ⟨s, s', h1, h2, _⟩
   · rw [h1, h2]
   · rw [h1, h2]; rfl
 · rfl

theorem getD_take {xs : List Int} {m k : Nat} (h : k < m) : (xs.take m).getD k 0 = xs.getD k 0 := by
 simp [List.getD, h]

theorem wk_take (c : Int) (ps : List (List Stm)) (xs : List Int) (m : Nat) : ∀ k, k * 2 + 1 < m → wk c ps (xs.take m) k = wk c ps xs k
 | 0, _ => rfl
 | k + 1, h => by
  unfold wk
  rw [wk_take c ps xs m k (by omega), getD_take (by omega), getD_take (by omega)]

theorem wk_some_le {c : Int} {ps : List (List Stm)} {xs : List Int} {k : Nat} {s : WS} (h : wk c ps xs k = some s) {j : Nat} (hj : j ≤ k) : ∃ s', wk c ps xs j = some s' := by
 cases hh : wk c ps xs j with
 | some s' => exact ⟨s', rfl⟩
 | none => rw [wk_none hh k hj] at h; cases h

/-- Each beginning of a walk is a walk. -/
theorem walkA_take {c : Int} {ps : List (List Stm)} {xs : List Int} {n : Nat} {s : WS} (h : walkA c ps xs n = some s) {i : Nat} (h1 : 1 ≤ i) (hi : i ≤ n) : ∃ s', walkA c ps (xs.take (2 * i)) i = some s' ∧ wk c ps xs (i - 1) = some s' := by
 unfold walkA at h
 split at h
 · rename_i hh
   obtain ⟨s', hs'⟩ := wk_some_le h (j := i - 1) (by omega)
   refine ⟨s', ?_, hs'⟩
   unfold walkA
   rw [if_pos ⟨hh.1, h1, by omega, by rw [getD_take (by omega)]; exact hh.2.2.2.1, by rw [getD_take (by omega)]; exact hh.2.2.2.2⟩, wk_take c ps xs (2 * i) (i - 1) (by omega), hs']
 · cases h

theorem lor_of_sub {x y : Int} (hx : Small x) (hy : Small y) (h : Sub x y) : lor x y = y :=
 bit_ext (lor_small hx hy) hy (fun t _ => by
  rw [bit_lor hx hy]
  cases hb : bit x t with
  | false => rfl
  | true => rw [h t hb]; rfl)

theorem odd_of_bit {x : Int} (hx : Small x) (h : bit x 0 = true) : x % 2 = 1 := by
 obtain ⟨n, rfl, hn⟩ := small_nat hx
 unfold bit at h
 simp only [Int.toNat_natCast] at h
 rw [Nat.testBit_zero] at h
 have : n % 2 = 1 := by simpa using h
 omega

end Go.Proofs.Ytnjbihfceckpfaa

/-
 laws.eqInt64SS: two lists of lists that are alike.
-/
namespace Go.Proofs.Ytnjbihfceckpfaa
open Go.RowKit
set_option linter.unusedVariables false
set_option maxHeartbeats 1000000
attribute [local go_sem ↓] Go.wp_at_zero Go.wp_at_succ

/-- The slice v holds slices that hold the lists xss. -/
def ReadsSS (w : World) (v : Value) (xss : List (List Int)) : Prop :=
 ∃ ao cap, v = .slice ao xss.length cap ∧ ∀ j xs, xss[j]? = some xs → ∃ g off u, ao = some ⟨g, off, none⟩ ∧ w.cell? ⟨g, off + j, none⟩ = some u ∧ Reads w u (ints xs)

theorem OwnSS.reads {w : World} {base : Nat} {v : Value} {us : List Value} {xss : List (List Int)} (h : OwnSS w base v us xss) : ReadsSS w v xss := by
 have hl := h.len
 rcases h.row.2 with ⟨rfl, hn⟩ | ⟨g, cap, cur, rfl, _⟩
 · exact ⟨none, 0, by rw [hn], fun j xs hx => by rw [List.eq_nil_of_length_eq_zero hn] at hx; simp at hx⟩
 · refine ⟨some ⟨g, 0, none⟩, cap, rfl, fun j xs hx => ?_⟩
   have hj : j < xss.length := (List.getElem?_eq_some_iff.1 hx).1
   obtain ⟨u, hu, hc, ho⟩ := h.at hj
   have e : xss[j] = xs := (List.getElem?_eq_some_iff.1 hx).2
   exact ⟨g, 0, u, rfl, by rw [Nat.zero_add]; exact hc, by rw [← e]; exact reads_own ho⟩

end Go.Proofs.Ytnjbihfceckpfaa
