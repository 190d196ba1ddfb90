/-
 Put together out of: RegionLast, Made, ImplEd.
-/
import Derived.Deep.RegionHeld3
import Derived.Deep.RegionLaw
import Derived.Laws.AppendOwnNone
import Derived.Deep.AppendLies
import Derived.Test.YtldagpfeaabcdaaGreatDoorG03EditOk
namespace Go.Proofs.YtldagpfeaabcdaaGreatDoor
open Go.RowKit
section
variable {P : Program} {ops : Array Oper} {Q : Exit → Act → World → Prop} {md : Region.Mode} {S : World → Prop} {late : Nat → Bool}
def jr0 (P : Program) (md : Region.Mode) (ops : Array Oper) (Q : Exit → Act → World → Prop) (S : World → Prop) (late : Nat → Bool) : Nat → Array Bool → Act → World → Prop
 | 0, listed, a, w => Region.ready md ops listed = [] ∧ Q .normal a w
 | fuel + 1, listed, a, w => (Region.ready md ops listed = [] → Q .normal a w) ∧
  ∀ i ∈ Region.ready md ops listed, wpOp P ops Q i (fun a' w' => (late i = true ∨ S w') ∧ jr0 P md ops Q S late fuel (listed.setIfInBounds i true) a' w') a w
theorem jx2 : ∀ (fuel : Nat) (listed : Array Bool) (a : Act) (w : World), jr0 P md ops Q S late fuel listed a w → wpAny P md ops Q fuel listed a w
 | 0, _, _, _, h => h
 | fuel + 1, _, _, _, h => ⟨h.1, fun i hi => wpOp_mono (fun a' w' h' => jx2 fuel _ a' w' h'.2) (h.2 i hi)⟩
def waitsB (md : Region.Mode) (ops : Array Oper) (late : Nat → Bool) (i : Nat) : Bool :=
 (List.range ops.size).all fun j => !late j || ((ops[j]?).map (fun o => o.after.any fun e => Region.binds md e && e.on == i)).getD true
theorem waits_spec {i j : Nat} {oj : Oper} (h : waitsB md ops late i = true) (hj : ops[j]? = some oj) (hl : late j = true) : ∃ e ∈ oj.after, Region.binds md e = true ∧ e.on = i := by
 unfold waitsB at h
 rw [List.all_eq_true] at h
 have hlt : j < ops.size := (Array.getElem?_eq_some_iff.1 hj).1
 have h1 := h j (List.mem_range.2 hlt)
 rw [hj, hl] at h1
 simp only [Bool.not_true, Bool.false_or, Option.map_some, Option.getD_some, Array.any_eq_true] at h1
 obtain ⟨k, hk, h2⟩ := h1
 simp only [Bool.and_eq_true, beq_iff_eq] at h2
 exact ⟨_, Array.getElem_mem hk, h2.1, h2.2⟩
theorem wpAnyG_first {i : Nat} {oi : Oper} {v : Value} (hi : ops[i]? = some oi) (hsel : ∀ (j : Nat) (o : Oper) cs b, ops[j]? = some o → o.op ≠ .select cs b)
 (hQ : ∀ c a w, Q (.panic c) (a.put oi.dst v) w → Q (.panic c) a w) (hlate : waitsB md ops late i = true) (hli : late i = false) :
 ∀ (fuel : Nat) (listed : Array Bool) (a : Act) (w : World),
  (∀ j oj, ops[j]? = some oj → j ≠ i → listed.getD j true = false → (∀ e ∈ oj.after, Region.binds md e = true → e.on ≠ i) → oi.apart ops oj = true) →
  i ∈ Region.ready md ops listed → YieldsIf P ops S oi v a → S w →
  jr0 P md ops Q S late fuel (listed.setIfInBounds i true) (a.put oi.dst v) w → jr0 P md ops Q S late (fuel + 1) listed a w := by
 intro fuel
 induction fuel with
 | zero =>
  intro listed a w _ hr hy hS H
  refine ⟨fun h => (by rw [h] at hr; cases hr), fun j hj => ?_⟩
  by_cases hji : j = i
  · subst hji; exact hy.wpOp hi hS ⟨.inr hS, H⟩
  · have := ready_mono hj hji
    rw [H.1] at this
    cases this
 | succ fuel ih =>
  intro listed a w hfree hr hy hS H
  refine ⟨fun h => (by rw [h] at hr; cases hr), fun j hj => ?_⟩
  by_cases hji : j = i
  · subst hji; exact hy.wpOp hi hS ⟨.inr hS, H⟩
  · have h1 := H.2 j (ready_mono hj hji)
    obtain ⟨hjun, oj, hoj, hall⟩ := mem_ready.1 hj
    have hnot : ∀ e ∈ oj.after, Region.binds md e = true → e.on ≠ i := fun e he hb heq => by
     have h1 := hall e he hb
     have h0 := (mem_ready.1 hr).1
     rw [heq] at h1
     rcases Nat.lt_or_ge i listed.size with h' | h'
     · simp [h'] at h0 h1; rw [h0] at h1; cases h1
     · simp [Array.getElem?_eq_none h'] at h1
    have hjl : ¬ late j = true := fun hl => by
     obtain ⟨e, he, hb, heq⟩ := waits_spec hlate hoj hl
     exact hnot e he hb heq
    have h2 := wpOp_putIf hoj (hfree j oj hoj hji hjun hnot) (fun cs b => hsel i oi cs b hi) (fun cs b => hsel j oj cs b hoj) hQ hy h1
    have hfree' : ∀ k ok, ops[k]? = some ok → k ≠ i → (listed.setIfInBounds j true).getD k true = false →
     (∀ e ∈ ok.after, Region.binds md e = true → e.on ≠ i) → oi.apart ops ok = true := fun k ok hk hki hun hno => by
     refine hfree k ok hk hki ?_ hno
     by_cases hjk : j = k
     · subst hjk; exact hjun
     · rw [getD_set_ne true hjk] at hun; exact hun
    refine wpOp_mono (fun a' w' h3 => ?_) h2
    have hS' : S w' := h3.2.1.resolve_left hjl
    refine ⟨.inr hS', ih (listed.setIfInBounds j true) a' w' hfree' (ready_mono hr (Ne.symm hji)) h3.1 hS' ?_⟩
    rw [Array.setIfInBounds_comm _ _ hji]
    exact h3.2.2
theorem ja1 {i : Nat} {oi : Oper} {v : Value} {fuel : Nat} {listed : Array Bool} {a : Act} {w : World} (hi : ops[i]? = some oi)
 (hs : Region.noSelect ops = true) (hf : Region.free md ops listed i = true) (hr : (Region.ready md ops listed).contains i = true) (hl : (waitsB md ops late i && !late i) = true)
 (hQ : ∀ c a w, Q (.panic c) (a.put oi.dst v) w → Q (.panic c) a w) (hy : YieldsIf P ops S oi v a) (hS : S w)
 (h : jr0 P md ops Q S late fuel (listed.setIfInBounds i true) (a.put oi.dst v) w) : jr0 P md ops Q S late (fuel + 1) listed a w := by
 simp only [Bool.and_eq_true, Bool.not_eq_true'] at hl
 exact wpAnyG_first hi (Region.noSelect_spec hs) hQ hl.1 hl.2 fuel listed a w (Region.free_spec hi hf) (by simpa using hr) hy hS h
def AllReadyG (P : Program) (md : Region.Mode) (ops : Array Oper) (Q : Exit → Act → World → Prop) (S : World → Prop) (late : Nat → Bool) (fuel : Nat) (listed : Array Bool) (a : Act) (w : World) (rs : List Nat) : Prop :=
 ∀ i ∈ rs, wpOp P ops Q i (fun a' w' => (late i = true ∨ S w') ∧ jr0 P md ops Q S late fuel (listed.setIfInBounds i true) a' w') a w
theorem AllReadyG.nil {fuel : Nat} {listed : Array Bool} {a : Act} {w : World} : AllReadyG P md ops Q S late fuel listed a w [] := fun _ h => by cases h
theorem AllReadyG.cons {fuel : Nat} {listed : Array Bool} {a : Act} {w : World} {i : Nat} {o : Oper} {rs : List Nat} (ho : ops[i]? = some o)
 (h : ∀ K' : Act → World → Prop, Shut (∀ a w, (late i = true ∨ S w) → (late i = true ∨ S w → jr0 P md ops Q S late fuel (listed.setIfInBounds i true) a w) → K' a w) → if Region.wanted o (yielded ops a.tmps) = true then Oper.wp P o a w K' Q else K' (a.put o.dst undef) w)
 (hs : AllReadyG P md ops Q S late fuel listed a w rs) : AllReadyG P md ops Q S late fuel listed a w (i :: rs) := fun j hj => by
 rcases List.mem_cons.1 hj with rfl | hj
 · exact wpOp_step ho (fun K' hK => h K' (fun a w hS hW => hK a w ⟨hS, hW hS⟩))
 · exact hs j hj
theorem ja7 {rs : List Nat} {fuel : Nat} {listed : Array Bool} {a : Act} {w : World} (hr : Region.ready md ops listed = rs) (hne : rs ≠ [])
 (h : AllReadyG P md ops Q S late fuel listed a w rs) : jr0 P md ops Q S late (fuel + 1) listed a w := ⟨fun h0 => absurd (hr ▸ h0) hne, hr ▸ h⟩
theorem jh2 {listed : Array Bool} {a : Act} {w : World} (hr : Region.ready md ops listed = []) (h : Q .normal a w) : ∀ fuel, jr0 P md ops Q S late fuel listed a w
 | 0 => ⟨hr, h⟩
 | _ + 1 => ⟨fun _ => h, by rw [hr]; simp⟩
theorem jg2 {id : Nat} {a : Act} {w : World} (S : World → Prop) (late : Nat → Bool) (hm : P.follows .mixedOrders = true) (hS : S w.drew)
 (h : S w.drew → jr0 P .any ops Q S late ops.size (Array.replicate ops.size false) a w.drew) : (Code.region id ops true).wp P Q a w :=
 wp_region_any hm (jx2 _ _ _ _ (h hS))
end
end Go.Proofs.YtldagpfeaabcdaaGreatDoor
namespace Go.Proofs.YtldagpfeaabcdaaGreatDoor
open Go.RowKit
set_option linter.unusedVariables false
set_option linter.unusedSimpArgs false
set_option maxHeartbeats 4000000
set_option maxRecDepth 20000
theorem Own13.spl {w w4 : World} {base G cap g m c i q c' : Nat} {us : List Value} {ps : List (List Stm)} {R : List Stm} (h : Own13 w base (.slice (some ⟨G, 0, none⟩) ps.length cap) us ps) (hi : i < ps.length)
 (hui : us[i]? = some (.slice (some ⟨g, 0, none⟩) m c)) (hg : w.grownBy w4 (some g)) (ho : w4.ownsRow base 52 3 (.slice (some ⟨q, 0, none⟩) R.length c') R.length (ja3 R)) (hq : q = g ∨ w.heap.size ≤ q) :
 Own13 (w4.setCell ⟨G, i, none⟩ (.slice (some ⟨q, 0, none⟩) R.length c')) base (.slice (some ⟨G, 0, none⟩) ps.length cap) (us.set i (.slice (some ⟨q, 0, none⟩) R.length c')) (ps.set i R) := by
 have hul := h.len
 obtain ⟨p, hp⟩ : ∃ p, ps[i]? = some p := ⟨ps[i], by simp [hi]⟩
 have hoi := h.each i _ p hui hp
 have hGg : G ≠ g := fun e => jx3 hoi h.row (by decide) g rfl (by rw [e]; rfl)
 have hrow4 : w4.ownsRow base 63 1 (.slice (some ⟨G, 0, none⟩) ps.length cap) ps.length us := jd5 h.row hg (fun k hk e => hGg ((Option.some.inj hk).trans (Option.some.inj e).symm))
 have keep : ∀ {u : Value} {r : List Stm}, w4.ownsRow base 52 3 u r.length (ja3 r) → (w4.setCell ⟨G, i, none⟩ (.slice (some ⟨q, 0, none⟩) R.length c')).ownsRow base 52 3 u r.length (ja3 r) := fun {u r} hu =>
  jd5 hu (jc3 _ _ _ _) (fun k hk e => jx3 hu hrow4 (by decide) k hk e)
 refine ⟨by rw [List.length_set]; exact own_put13 hrow4 i _, fun j u r h1 h2 => ?_, fun a b x y k hne hx hy hk hk' => ?_⟩
 · by_cases e : i = j
   · subst e
     rw [List.getElem?_set_self (by omega)] at h1
     rw [List.getElem?_set_self hi] at h2
     cases h1; cases h2
     exact keep ho
   · rw [List.getElem?_set_ne e] at h1 h2
     have h3 := h.each j u r h1 h2
     exact keep (jd5 h3 hg (fun k hk e' => h.ap j i u _ k (fun e2 => e e2.symm) h1 hui hk (by rw [← e']; rfl)))
 · have old : ∀ {a : Nat} {x : Value}, a ≠ i → (us.set i (.slice (some ⟨q, 0, none⟩) R.length c'))[a]? = some x → us[a]? = some x := fun {a x} hne hx => by rwa [List.getElem?_set_ne (Ne.symm hne)] at hx
   have new : ∀ {x : Value}, (us.set i (.slice (some ⟨q, 0, none⟩) R.length c'))[i]? = some x → x = .slice (some ⟨q, 0, none⟩) R.length c' := fun {x} hx => by
    rw [List.getElem?_set_self (by omega)] at hx
    exact (Option.some.inj hx).symm
   have cross : ∀ {a : Nat} {x : Value}, a ≠ i → us[a]? = some x → x.ownBlock ≠ some q := fun {a x} hne hx hk => by
    have hal : a < ps.length := by have := (List.getElem?_eq_some_iff.1 hx).1; omega
    have h5 := (h.each a x ps[a] hx (by simp [hal])).lt q hk
    rcases hq with rfl | hq
    · exact h.ap a i x _ q hne hx hui hk rfl
    · omega
   by_cases e1 : a = i
   · subst e1
     have h6 := new hx
     subst h6
     have h7 := old (Ne.symm hne) hy
     rw [show k = q from (Option.some.inj hk).symm] at hk'
     exact cross (Ne.symm hne) h7 hk'
   · by_cases e2 : b = i
     · subst e2
       have h6 := new hy
       subst h6
       rw [show k = q from (Option.some.inj hk').symm] at hk
       exact cross e1 (old e1 hx) hk
     · exact h.ap a b x y k hne (old e1 hx) (old e2 hy) hk hk'
theorem progs13 {ps : List (List Stm)} (h : ja5 ps = true) : 1 ≤ ps.length ∧ ps.length ≤ 4 ∧ ∀ p ∈ ps, je7 p = true := by
 unfold ja5 at h
 simp only [Bool.and_eq_true, decide_eq_true_eq] at h
 obtain ⟨⟨h1, h2⟩, h3⟩ := h
 refine ⟨h1, h2, fun p hp => ?_⟩
 have := List.all_eq_true.1 h3 p hp
 unfold jj7 at this
 simp only [Bool.and_eq_true] at this
 exact this.1
theorem stm_y {s : Stm} (h : jd7 s.k s.x s.y = true) : 0 ≤ s.y ∧ s.y ≤ 11 := by
 obtain ⟨k, x, y⟩ := s
 unfold jd7 inB at h
 simp only at h ⊢
 repeat' split at h
 all_goals simp at h
 all_goals omega
theorem procs13 {p : List Stm} (h : je7 p = true) : 0 < p.length ∧ p.length ≤ 12 ∧ ∀ s ∈ p, 0 ≤ s.y ∧ s.y ≤ 11 := by
 have h0 := h
 unfold je7 at h0
 simp only [Bool.and_eq_true, decide_eq_true_eq] at h0
 obtain ⟨⟨⟨h1, h2⟩, _⟩, _⟩ := h0
 exact ⟨h1, h2, fun s hs => stm_y (ji1 h hs)⟩
end Go.Proofs.YtldagpfeaabcdaaGreatDoor
namespace Go.Proofs.YtldagpfeaabcdaaGreatDoor
open Go.RowKit
set_option linter.unusedVariables false
set_option linter.unusedSimpArgs false
set_option maxHeartbeats 4000000
set_option maxRecDepth 20000
theorem jn5 (w : World) (base : Nat) : Own13 w base (.slice none 0 0) [] [] :=
 ⟨⟨rfl, .inl ⟨rfl, rfl⟩⟩, fun j u p h => by simp at h, fun i j a b k _ h => by simp at h⟩
theorem Own13.small {w : World} {base : Nat} {v : Value} {us : List Value} {ps : List (List Stm)} (h : Own13 w base v us ps) : ps.length ≤ maxLen ∧ ∀ p ∈ ps, p.length ≤ maxLen := by
 have len : ∀ {e : TypeId} {s n : Nat} {x : Value} {xs : List Value}, w.ownsRow base e s x n xs → n ≤ maxLen := by
  intro e s n x xs hx
  rcases hx.2 with ⟨_, h0⟩ | ⟨g, cap, cur, _, _, _, h1, h2, _⟩
  · omega
  · exact Nat.le_trans h1 h2
 refine ⟨len h.row, fun p hp => ?_⟩
 obtain ⟨j, hj⟩ := List.getElem?_of_mem hp
 have hjl := (List.getElem?_eq_some_iff.1 hj).1
 have hju : j < us.length := by rw [h.len]; exact hjl
 exact len (h.each j us[j] p (by simp) hj)
end Go.Proofs.YtldagpfeaabcdaaGreatDoor
