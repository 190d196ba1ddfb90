/-
 spec.l13Do: more of what it has in hand.
-/
import Derived.Test.YtldagpfeaabcdaaGreatDoorG05Do13M
import Derived.BigRegion
namespace Go.Proofs.YtldagpfeaabcdaaGreatDoor
open Go.RowKit
set_option linter.unusedVariables false
set_option linter.unusedSimpArgs false
set_option maxHeartbeats 8000000
set_option maxRecDepth 20000
theorem qe4 : ∀ (L : List Stm) (j : Nat), ja3 (L.drop j) = (ja3 L).drop (j * 3)
 | [], j => by simp [ja3]
 | t :: L, 0 => by simp
 | t :: L, j + 1 => by
  have e : (j + 1) * 3 = j * 3 + 1 + 1 + 1 := by omega
  rw [e]
  simp only [ja3, List.drop_succ_cons, qe4 L j]
theorem qc3 : ∀ (L : List Stm) (j : Nat), ja3 (L.take j) = (ja3 L).take (j * 3)
 | [], j => by simp [ja3]
 | t :: L, 0 => by simp [ja3]
 | t :: L, j + 1 => by
  have e : (j + 1) * 3 = j * 3 + 1 + 1 + 1 := by omega
  rw [e]
  simp only [ja3, List.take_succ_cons, qc3 L j]
theorem own_dropS {w : World} {base g m c : Nat} {L : List Stm} (h : w.ownsRow base 52 3 (.slice (some ⟨g, 0, none⟩) m c) m (ja3 L)) (j : Nat) : ∀ q u, (ja3 (L.drop j))[q]? = some u → w.cell? ((⟨g, j * 3, none⟩ : Addr).add q) = some u := by
 intro q u hq
 rw [qe4, List.getElem?_drop] at hq
 have hl := (List.getElem?_eq_some_iff.1 hq).1
 have h1 := h.1
 rw [Addr.add_lit, h.cellAt (j * 3 + q) (by omega)]
 exact hq
theorem jq7 {w : World} {base g m c : Nat} {L : List Stm} (h : w.ownsRow base 52 3 (.slice (some ⟨g, 0, none⟩) m c) m (ja3 L)) (j : Nat) : ∀ q u, (ja3 (L.take j))[q]? = some u → w.cell? ((⟨g, 0, none⟩ : Addr).add q) = some u := by
 intro q u hq
 rw [qc3, List.getElem?_take] at hq
 split at hq
 · have hl := (List.getElem?_eq_some_iff.1 hq).1
   have h1 := h.1
   rw [Addr.add_lit, Nat.zero_add, h.cellAt q (by omega)]
   exact hq
 · cases hq
theorem qh8 {ps : List (List Stm)} {i : Nat} {p : List Stm} (h : ps[i]? = some p) : ps.set i p = ps := by
 refine List.ext_getElem? (fun j => ?_)
 by_cases e : i = j
 · subst e
   have hl := (List.getElem?_eq_some_iff.1 h).1
   rw [List.getElem?_set_self hl, h]
 · rw [List.getElem?_set_ne e]
theorem jr1 {w : World} {base n : Nat} {v : Value} {xs : List Value} (h : w.ownsRow base 52 3 v n xs) (h0 : 0 < n) : ∃ q c, v = .slice (some ⟨q, 0, none⟩) n c := by
 rcases h.2 with ⟨_, hn⟩ | ⟨g, cap, cur, rfl, _⟩
 · omega
 · exact ⟨g, cap, rfl⟩
theorem jx9 {w : World} {base g n c : Nat} {xs : List Value} (h : w.ownsRow base 52 3 (.slice (some ⟨g, 0, none⟩) n c) n xs) : ∀ q u, xs[q]? = some u → w.cell? ((⟨g, 0, none⟩ : Addr).add q) = some u := by
 intro q u hq
 have hl := (List.getElem?_eq_some_iff.1 hq).1
 have h1 := h.1
 rw [Addr.add_lit, Nat.zero_add, h.cellAt q (by omega)]
 exact hq
theorem jx0 {w : World} {base : Nat} {e T : TypeId} {s n B : Nat} {v : Value} {xs : List Value} {cs : Array Value} {q : Nat × Nat} (h : w.ownsRow base e s v n xs) (hB : w.heap[B]? = some (.cells cs T q)) (hne : e ≠ T) (hk : v.ownBlock = some B) : False := by
 rcases h.2 with ⟨rfl, _⟩ | ⟨g, cap, cur, rfl, _, hg, _⟩
 · cases hk
 · cases hk
   rw [hg] at hB
   exact hne (by injection hB with h1; injection h1)
theorem Own13.splV {w w4 : World} {base G cap g m c i : Nat} {x : Value} {us : List Value} {ps : List (List Stm)} {R : List Stm} (h : Own13 w base (.slice (some ⟨G, 0, none⟩) ps.length cap) us ps) (hi : i < ps.length)
 (hui : us[i]? = some (.slice (some ⟨g, 0, none⟩) m c)) (hg : w.grownBy w4 (some g)) (ho : w4.ownsRow base 52 3 x R.length (ja3 R)) (hq : ∀ k, x.ownBlock = some k → k = g ∨ w.heap.size ≤ k) :
 Own13 (w4.setCell ⟨G, i, none⟩ x) base (.slice (some ⟨G, 0, none⟩) ps.length cap) (us.set i x) (ps.set i R) := by
 have hul := h.len
 obtain ⟨p, hp⟩ : ∃ p, ps[i]? = some p := ⟨ps[i], by simp [hi]⟩
 have hoi := h.each i _ p hui hp
 have hGg : G ≠ g := fun e => jx3 hoi h.row (by decide) g rfl (by rw [e]; rfl)
 have hrow4 : w4.ownsRow base 63 1 (.slice (some ⟨G, 0, none⟩) ps.length cap) ps.length us := jd5 h.row hg (fun k hk e => hGg ((Option.some.inj hk).trans (Option.some.inj e).symm))
 have keep : ∀ {u : Value} {r : List Stm}, w4.ownsRow base 52 3 u r.length (ja3 r) → (w4.setCell ⟨G, i, none⟩ x).ownsRow base 52 3 u r.length (ja3 r) := fun {u r} hu =>
  jd5 hu (jc3 _ _ _ _) (fun k hk e => jx3 hu hrow4 (by decide) k hk e)
 refine ⟨by rw [List.length_set]; exact own_put13 hrow4 i _, fun j u r h1 h2 => ?_, fun a b y z k hne hy hz hk hk' => ?_⟩
 · by_cases e : i = j
   · subst e
     rw [List.getElem?_set_self (by omega)] at h1
     rw [List.getElem?_set_self hi] at h2
     cases h1; cases h2
     exact keep ho
   · rw [List.getElem?_set_ne e] at h1 h2
     have h3 := h.each j u r h1 h2
     exact keep (jd5 h3 hg (fun k hk e' => h.ap j i u _ k (fun e2 => e e2.symm) h1 hui hk (by rw [← e']; rfl)))
 · have old : ∀ {a : Nat} {y : Value}, a ≠ i → (us.set i x)[a]? = some y → us[a]? = some y := fun {a y} hne hy => by rwa [List.getElem?_set_ne (Ne.symm hne)] at hy
   have new : ∀ {y : Value}, (us.set i x)[i]? = some y → y = x := fun {y} hy => by
    rw [List.getElem?_set_self (by omega)] at hy
    exact (Option.some.inj hy).symm
   have cross : ∀ {a : Nat} {y : Value} {k : Nat}, a ≠ i → us[a]? = some y → x.ownBlock = some k → y.ownBlock ≠ some k := fun {a y k} hne hy hxk hk => by
    have hal : a < ps.length := by have := (List.getElem?_eq_some_iff.1 hy).1; omega
    have h5 := (h.each a y ps[a] hy (by simp [hal])).lt k hk
    rcases hq k hxk with rfl | hq
    · exact h.ap a i y _ k hne hy hui hk rfl
    · omega
   by_cases e1 : a = i
   · subst e1
     have h6 := new hy
     subst h6
     exact cross (Ne.symm hne) (old (Ne.symm hne) hz) hk hk'
   · by_cases e2 : b = i
     · subst e2
       have h6 := new hz
       subst h6
       exact cross e1 (old e1 hy) hk' hk
     · exact h.ap a b y z k hne (old e1 hy) (old e2 hz) hk hk'
theorem Do13.kept {w : World} {base P G cap : Nat} {k pr a sk sx sy : Int} {us : List Value} {ps : List (List Stm)} {W w' : World} (h : Do13 w base P G cap k pr a sk sx sy us ps W) (hb : Below W.heap.size W w') (hbase : base ≤ w.heap.size) : Do13 w base P G cap k pr a sk sx sy us ps w' :=
 ⟨(hb.block _ h.size).trans h.edit, (hb.block _ (Array.getElem?_eq_some_iff.1 h.box).1).trans h.box, h.own.kept hb, h.below.trans (hb.mono (Nat.le_trans hbase (Nat.le_of_lt h.size))), Nat.lt_of_lt_of_le h.size hb.size⟩
theorem Do13.row {w : World} {base P G cap i g m c : Nat} {k pr a sk sx sy : Int} {us : List Value} {ps : List (List Stm)} {W : World} {L : List Stm} (h : Do13 w base P G cap k pr a sk sx sy us (ps.set i L) W) (hi : i < ps.length) (hui : us[i]? = some (.slice (some ⟨g, 0, none⟩) m c)) (hL : L.length = m) : W.ownsRow base 52 3 (.slice (some ⟨g, 0, none⟩) m c) m (ja3 L) := by
 have := h.own.each i _ L hui (by rw [List.getElem?_set_self hi])
 rwa [hL] at this
end Go.Proofs.YtldagpfeaabcdaaGreatDoor
