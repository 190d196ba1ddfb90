/-
  Put together out of: SpecProof, ProofSt, ProofL, LayersN, RegionLast.
-/
import Derived.Test.YtciccbbgamklbaaG07SpecLess
import Derived.Test.YtciccbbgamklbaaG05Lists
import Derived.Test.YtciccbbgamklbaaG06RangeFootH
import Derived.Test.YtciccbbgamklbaaG04VisitsM
import Derived.Test.YtciccbbgamklbaaG00RelA
import Derived.Deep.RegionHeld3
import Derived.Deep.RegionLaw
import Derived.Laws.AppendOwnNone
import Derived.Deep.AppendLies
/-
  spec.Proof.
-/
namespace Go.Proofs.Ytciccbbgamklbaa
open Go.RowKit
set_option linter.unusedVariables false
set_option linter.unusedSimpArgs false
set_option maxHeartbeats 4000000
set_option maxRecDepth 20000

theorem made_nil (W : World) (base : Nat) (h : base ≤ W.heap.size) : (W.alloc (.cells #[] 2)).ownsRow base 2 1 (.slice (some ⟨W.heap.size, 0, none⟩) 0 0) 0 (ints []) := own_mono (made0 W) h

/-- At wrong inputs. -/
theorem specProofN (ss : List Stm) (c s i t : Int) (hno : (hasS ss i && isCl c && inB s 0 127 && inB t 0 6) = false) (v : Value) (w : World) (hl : ss.length ≤ maxLen) (hv : Reads3 w v ss) :
    Calls Try.prog 6 #[.agg #[v], .int .i64 c, .int .i64 s, .int .i64 i, .int .i64 t] w fun e w' => ∃ u, e = .returned u ∧ w'.ownsRow w.heap.size 2 1 u 0 (ints []) ∧ Below w.heap.size w w' := by
  obtain ⟨W0, hW0⟩ : ∃ W0, w.alloc (.cells #[v] 30) = W0 := ⟨_, rfl⟩
  have hb0 : Below w.heap.size w W0 := by rw [← hW0]; go_grown
  have HW : Hid (w.alloc (.cells #[v] 30) = W0) := hW0
  clear hW0
  have he := l4In ss i v W0 hl (reads3_below hv hb0)
  have hcl := fun W => l7Client c W
  have hin := fun W => l1In s 0 127 W
  have hit := fun W => l1In t 0 6 W
  cases h1 : hasS ss i
  · rw [h1] at he
    clear hno h1
    go_enter Try.func6, Try.ntmps6
    go_wp2_with fail
    go_at_call 22
    rw [HW.out]
    refine he.mono ?_
    rintro e w2 ⟨rfl, b2⟩
    have L2 := hb0.trans (b2.mono hb0.size)
    have s2 := L2.size
    clear he
    go_wp2
    go_ret
    exact ⟨_, rfl, made_nil _ _ (by omega), by go_grown⟩
  rw [h1] at he
  cases h2 : isCl c
  · have hcl : ∀ W, Calls Try.prog 23 #[.int .i64 c] W (fun e w' => e = .returned (.bool false) ∧ W = w') := fun W => h2 ▸ l7Client c W
    clear hno h1 h2
    go_enter Try.func6, Try.ntmps6
    go_wp2_with fail
    go_at_call 22
    rw [HW.out]
    refine he.mono ?_
    rintro e w2 ⟨rfl, b2⟩
    have L2 := hb0.trans (b2.mono hb0.size)
    have s2 := L2.size
    clear he
    go_wp2_with fail
    go_at_call 23
    refine (hcl _).mono ?_
    rintro e w3 ⟨rfl, rfl⟩
    clear hcl
    go_wp2
    go_ret
    exact ⟨_, rfl, made_nil _ _ (by omega), by go_grown⟩
  have hcl : ∀ W, Calls Try.prog 23 #[.int .i64 c] W (fun e w' => e = .returned (.bool true) ∧ W = w') := fun W => h2 ▸ l7Client c W
  cases h3 : inB s 0 127
  · rw [h3] at hin
    clear hno h1 h2 h3
    go_enter Try.func6, Try.ntmps6
    go_wp2_with fail
    go_at_call 22
    rw [HW.out]
    refine he.mono ?_
    rintro e w2 ⟨rfl, b2⟩
    have L2 := hb0.trans (b2.mono hb0.size)
    have s2 := L2.size
    clear he
    go_wp2_with fail
    go_at_call 23
    refine (hcl _).mono ?_
    rintro e w3 ⟨rfl, rfl⟩
    clear hcl
    go_wp2_with fail
    go_at_call 24
    refine (hin _).mono ?_
    rintro e w4 ⟨rfl, rfl⟩
    clear hin
    go_wp2
    go_ret
    exact ⟨_, rfl, made_nil _ _ (by omega), by go_grown⟩
  rw [h3] at hin
  cases h4 : inB t 0 6
  · rw [h4] at hit
    clear hno h1 h2 h3 h4
    go_enter Try.func6, Try.ntmps6
    go_wp2_with fail
    go_at_call 22
    rw [HW.out]
    refine he.mono ?_
    rintro e w2 ⟨rfl, b2⟩
    have L2 := hb0.trans (b2.mono hb0.size)
    have s2 := L2.size
    clear he
    go_wp2_with fail
    go_at_call 23
    refine (hcl _).mono ?_
    rintro e w3 ⟨rfl, rfl⟩
    clear hcl
    go_wp2_with fail
    go_at_call 24
    refine (hin _).mono ?_
    rintro e w4 ⟨rfl, rfl⟩
    clear hin
    go_wp2_with fail
    go_at_call 24
    refine (hit _).mono ?_
    rintro e w5 ⟨rfl, rfl⟩
    clear hit
    go_wp2
    go_ret
    exact ⟨_, rfl, made_nil _ _ (by omega), by go_grown⟩
  rw [h1, h2, h3, h4] at hno
  simp at hno

end Go.Proofs.Ytciccbbgamklbaa

/-
  The state of spec.Proof: a row of ways and the facts that they bring, in memory.
-/
namespace Go.Proofs.Ytciccbbgamklbaa
open Go.RowKit
set_option linter.unusedVariables false

/-- nv holds the ways xss (as slices ns), mv their facts; all from block B on, the facts' row apart from the ways'. -/
structure PN (B : Nat) (nv : Value) (ns : List Value) (xss : List (List Int)) (mv : Value) (ts : List Int) (W : World) : Prop where
  row : OwnSS W B nv ns xss
  fac : W.ownsRow B 2 1 mv ts.length (ints ts)
  ap : ∀ u ∈ ns, ∀ k, u.ownBlock = some k → mv.ownBlock ≠ some k

section
variable {B : Nat} {nv : Value} {ns : List Value} {xss : List (List Int)} {mv : Value} {ts : List Int} {W W' : World}

theorem PN.below (h : PN B nv ns xss mv ts W) (hb : Below W.heap.size W W') : PN B nv ns xss mv ts W' := ⟨h.row.below hb, own_kept h.fac hb, h.ap⟩

/-- A change below B. -/
theorem PN.low {G : Nat} (h : PN B nv ns xss mv ts W) (hg : W.grownBy W' (some G)) (hG : G < B) : PN B nv ns xss mv ts W' := by
  refine ⟨h.row.same (fun k hk => ?_) (fun u hu k hk => ?_), own_same h.fac (fun k hk => ?_), h.ap⟩
  · have := h.row.row.lt k hk
    exact hg.block k this.2 (fun e => by cases e; omega)
  · have := h.row.ltI hu hk
    exact hg.block k this.2 (fun e => by cases e; omega)
  · have := h.fac.lt k hk
    exact hg.block k this.2 (fun e => by cases e; omega)

/-- One way more. -/
theorem PN.way {u : Value} {xs : List Int} {nv' : Value} (h : PN B nv ns xss mv ts W) (hu : W.ownsRow B 2 1 u xs.length (ints xs)) (hap : ∀ k, u.ownBlock = some k → mv.ownBlock ≠ some k)
    (hr : W'.ownsRow B 26 1 nv' (xss.length + 1) (ns ++ [u])) (hg : W.grownBy W' nv.ownBlock) : PN B nv' (ns ++ [u]) (xss ++ [xs]) mv ts W' := by
  refine ⟨h.row.appended hu hr hg, own_same h.fac (fun k hk => hg.block k (h.fac.lt k hk).2 (fun e => row_kind h.fac h.row.row (by decide) hk e.symm)), fun x hx k hk => ?_⟩
  rcases List.mem_append.1 hx with hx | hx
  · exact h.ap x hx k hk
  · have : x = u := by simpa using hx
    subst this
    exact hap k hk

/-- One fact more; its row stands where it stood, or in a new block. -/
theorem PN.fact {f : Int} {g n cap : Nat} (h : PN B nv ns xss mv ts W) (hr : W'.ownsRow B 2 1 (.slice (some ⟨g, 0, none⟩) n cap) (ts.length + 1) (ints ts ++ [.int .i64 f])) (hg : W.grownBy W' mv.ownBlock) (hp : mv.ownBlock = some g ∨ W.heap.size ≤ g) : PN B nv ns xss (.slice (some ⟨g, 0, none⟩) n cap) (ts ++ [f]) W' := by
  refine ⟨h.row.same (fun k hk => ?_) (fun u hu k hk => ?_), ?_, fun u hu k hk e => ?_⟩
  · exact hg.block k (h.row.row.lt k hk).2 (fun e => row_kind h.row.row h.fac (by decide) hk e.symm)
  · exact hg.block k (h.row.ltI hu hk).2 (fun e => h.ap u hu k hk e.symm)
  · have e : ints (ts ++ [f]) = ints ts ++ [.int .i64 f] := by simp [ints]
    rw [e, List.length_append]
    exact hr
  · have e : g = k := by simpa [Value.ownBlock] using e
    subst e
    rcases hp with hp | hp
    · exact h.ap u hu g hk hp
    · have := (h.row.ltI hu hk).2
      omega

/-- One way in another's place. -/
theorem PN.put {g cap a : Nat} {u : Value} {xs : List Int} (h : PN B (.slice (some ⟨g, 0, none⟩) xss.length cap) ns xss mv ts W) (ha : a < xss.length) (hu : W.ownsRow B 2 1 u xs.length (ints xs)) (hap : ∀ k, u.ownBlock = some k → mv.ownBlock ≠ some k)
    (hr : (W.setCell ⟨g, a, none⟩ u).ownsRow B 26 1 (.slice (some ⟨g, 0, none⟩) xss.length cap) xss.length (ns.set a u)) : PN B (.slice (some ⟨g, 0, none⟩) xss.length cap) (ns.set a u) (xss.set a xs) mv ts (W.setCell ⟨g, a, none⟩ u) := by
  have hg := grown_setCell1H W g a u
  have keep : ∀ (x : Value) (ys : List Int), W.ownsRow B 2 1 x ys.length (ints ys) → (W.setCell ⟨g, a, none⟩ u).ownsRow B 2 1 x ys.length (ints ys) := fun x ys ho =>
    own_same ho (fun k hk => hg.block k (ho.lt k hk).2 (fun e => by cases e; exact row_kind ho h.row.row (by decide) hk rfl))
  have hl := h.row.len
  refine ⟨⟨by simpa using hr, fun j x ys hj hx => ?_⟩, ?_, fun x hx k hk => ?_⟩
  · by_cases e : a = j
    · subst e
      rw [List.getElem?_set_self (by omega)] at hj
      rw [List.getElem?_set_self ha] at hx
      obtain rfl : u = x := by simpa using hj
      obtain rfl : xs = ys := by simpa using hx
      exact keep _ _ hu
    · rw [List.getElem?_set_ne e] at hj hx
      exact keep x ys (h.row.each j x ys hj hx)
  · exact own_same h.fac (fun k hk => hg.block k (h.fac.lt k hk).2 (fun e => by cases e; exact row_kind h.fac h.row.row (by decide) hk rfl))
  · obtain ⟨j, hj⟩ := List.getElem?_of_mem hx
    by_cases e : a = j
    · subst e
      rw [List.getElem?_set_self (by omega)] at hj
      obtain rfl : u = x := by simpa using hj
      exact hap k hk
    · rw [List.getElem?_set_ne e] at hj
      exact h.ap x (List.mem_of_getElem? hj) k hk
end

end Go.Proofs.Ytciccbbgamklbaa

/-
  The state of spec.Proof between two layers; the first layer.
-/
namespace Go.Proofs.Ytciccbbgamklbaa
open Go.RowKit
set_option linter.unusedVariables false

/-- Between two layers. -/
structure PL (c : Int) (ss : List Stm) (s : Int) (i t : Nat) (v : Value) (w : World) (G L : Nat) (N : List Itm) (seen : List Int) (gr cr gf cf : Nat) (us : List Value) (wr : World) : Prop where
  lay : Layer c ss s L N seen
  far : ∀ zs, Brings c ss s i t zs → L ≤ zs.length
  mem : PN (G + 1) (.slice (some ⟨gr, 0, none⟩) N.length cr) us (N.map Prod.fst) (.slice (some ⟨gf, 0, none⟩) N.length cf) (N.map Prod.snd) wr
  sat : IntAt wr G seen
  len : seen.length = ss.length
  small : ∀ k, Small (seen.getD k 0)
  bound : L + rem seen ≤ 1600
  below : Below w.heap.size w wr
  box : wr.heap[w.heap.size]? = some (.cells #[v] 30 (0, 0))

def lenVP : Value → Nat
  | .slice _ n _ => n
  | _ => 0

theorem factsL_nth : ∀ {s : Int} {n a b : Nat} {x : Int}, (factsL s n)[a]? = some x → (factsL s n)[b]? = some x → a = b
  | s, 0, a, b, x, h, _ => by simp [factsL] at h
  | s, n + 1, a, b, x, h, h' => by
    have hin : ∀ y ∈ factsL s n, y < (n : Int) := fun y hy => by
      obtain ⟨t, ht, e, _⟩ := mem_factsL.1 hy
      omega
    unfold factsL at h h'
    split at h
    · rename_i hb
      rw [if_pos hb] at h'
      have get : ∀ q, (factsL s n ++ [(n : Int)])[q]? = some x → (q < (factsL s n).length ∧ (factsL s n)[q]? = some x) ∨ (q = (factsL s n).length ∧ x = (n : Int)) := fun q hq => by
        rcases Nat.lt_or_ge q (factsL s n).length with hl | hl
        · rw [List.getElem?_append_left hl] at hq
          exact .inl ⟨hl, hq⟩
        · rw [List.getElem?_append_right hl] at hq
          have hlt := (List.getElem?_eq_some_iff.1 hq).1
          simp at hlt
          have e0 : q - (factsL s n).length = 0 := by omega
          rw [e0] at hq
          simp at hq
          exact .inr ⟨by omega, hq.symm⟩
      rcases get a h with ⟨_, g⟩ | ⟨ea, ex⟩ <;> rcases get b h' with ⟨_, g'⟩ | ⟨eb, ex'⟩
      · exact factsL_nth g g'
      · have := hin x (List.mem_of_getElem? g); omega
      · have := hin x (List.mem_of_getElem? g'); omega
      · omega
    · rename_i hb
      rw [if_neg hb] at h'
      exact factsL_nth h h'

theorem rem_rep (n : Nat) : rem (List.replicate n (0 : Int)) = 127 * n := by
  induction n with
  | zero => rfl
  | succ n ih =>
    have : rem (List.replicate (n + 1) (0 : Int)) = 127 + rem (List.replicate n (0 : Int)) := by simp [rem, List.replicate_succ]
    omega

/-- The first layer. -/
theorem first_layer {c : Int} {ss : List Stm} {s : Int} (h1s : 1 ≤ ss.length) (h12 : ss.length ≤ 12) {F : List Int} (hF : factsL s 7 = F) :
    Layer c ss s 1 (F.map (fun t => (([0] : List Int), t))) (seeN (List.replicate ss.length 0) (F.map (fun t => ([0], t)))) ∧ (seeN (List.replicate ss.length 0) (F.map (fun t => ([0], t)))).length = ss.length ∧ (∀ k, Small ((seeN (List.replicate ss.length 0) (F.map (fun t => ([0], t)))).getD k 0)) ∧ 1 + rem (seeN (List.replicate ss.length 0) (F.map (fun t => ([0], t)))) ≤ 1599 := by
  have hm : ∀ x, x ∈ F ↔ ∃ t : Nat, t < 7 ∧ x = (t : Int) ∧ bit s t = true := fun x => by rw [← hF]; exact mem_factsL
  have hok : ∀ e ∈ F.map (fun t => (([0] : List Int), t)), OkI (List.replicate ss.length (0 : Int)).length e := fun e he => by
    obtain ⟨x, hx, rfl⟩ := List.mem_map.1 he
    obtain ⟨tt, h1, h2, _⟩ := (hm x).1 hx
    exact ⟨0, tt, by simp; omega, h1, rfl, h2⟩
  obtain ⟨g1, g2, g3, g4⟩ := seeN_all _ (List.replicate ss.length (0 : Int)) (fun j => by rw [getD_rep]; exact ⟨by decide, by decide⟩) hok
  rw [rem_rep] at g4
  refine ⟨Layer.first (fun e => ?_) (fun a b e f ha hb h2 => ?_) (fun i t ht => ?_), by rw [g1]; simp, g2, by omega⟩
  · rw [List.mem_map]
    constructor
    · rintro ⟨x, hx, rfl⟩
      obtain ⟨t, h1, h2, h3⟩ := (hm x).1 hx
      exact ⟨t, h1, h3, by rw [h2]⟩
    · rintro ⟨t, h1, h2, rfl⟩
      exact ⟨t, (hm _).2 ⟨t, h1, rfl, h2⟩, rfl⟩
  · rw [List.getElem?_map] at ha hb
    obtain ⟨x, hx, rfl⟩ := Option.map_eq_some_iff.1 ha
    obtain ⟨y, hy, rfl⟩ := Option.map_eq_some_iff.1 hb
    have e : x = y := h2
    subst e
    rw [← hF] at hx hy
    exact factsL_nth hx hy
  · rw [g3 i t ht, getD_rep, bit_zero]
    constructor
    · rintro (h | ⟨e, he, h1, h2⟩)
      · cases h
      · obtain ⟨x, hx, rfl⟩ := List.mem_map.1 he
        obtain ⟨t', q1, q2, q3⟩ := (hm x).1 hx
        have e1 : (0 : Int) = (i : Int) := h1
        have e2 : x = (t : Int) := h2
        obtain rfl : t' = t := by omega
        exact ⟨by omega, q3⟩
    · rintro ⟨rfl, hb⟩
      exact .inr ⟨([0], (t : Int)), List.mem_map.2 ⟨_, (hm _).2 ⟨t, ht, rfl, hb⟩, rfl⟩, rfl, rfl⟩

end Go.Proofs.Ytciccbbgamklbaa

/-
  Mathematics of spec.Proof, one layer's round: what comes of the items one after the other; the ways and facts in memory while it is made.
-/
namespace Go.Proofs.Ytciccbbgamklbaa
open Go.RowKit
set_option linter.unusedVariables false

/-- A goal that the walk leaves alone. -/
def StopJ (p : Prop) : Prop := p
theorem stop_ofJ {p : Prop} (h : StopJ p) : p := h

theorem nx_two (ss : List Stm) (j : Nat) : (nx ss j).length ≤ 2 := by unfold nx; exact nextsS_length _ _

/-- What comes of an item by one next statement and facts. -/
def FJ (seen : List Int) (e : Itm) (y : Int) (f : List Int) (z : Itm) : Prop := ∃ t ∈ f, bit (seen.getD y.toNat 0) t.toNat = false ∧ z = (e.1 ++ [y], t)
def FK (seen : List Int) (e : Itm) (ys f : List Int) (z : Itm) : Prop := ∃ y ∈ ys, FJ seen e y f z
def factsOf (c : Int) (ss : List Stm) (e : Itm) : List Int := factsL ((flw c ss (lastI e.1).toNat).getD e.2.toNat 0) 7
def FI (c : Int) (ss : List Stm) (seen : List Int) (es : List Itm) (z : Itm) : Prop := ∃ e ∈ es, FK seen e (nx ss (lastI e.1).toNat) (factsOf c ss e) z

def ItmOk (n L : Nat) (z : Itm) : Prop := z.1.length = L ∧ OkI n z

theorem mem_takeS {α : Type} {l : List α} {k : Nat} (hk : k < l.length) {x : α} : x ∈ l.take (k + 1) ↔ x ∈ l.take k ∨ x = l[k] := by
  rw [List.take_succ_eq_append_getElem hk, List.mem_append, List.mem_singleton]

theorem minJ_start {C : Itm → Prop} {seen : List Int} {e : Itm} {y : Int} {f : List Int} {M : List Itm} (h : MinOf C M) : MinOf (fun z => C z ∨ FJ seen e y (f.take 0) z) M :=
  h.congr (fun z => ⟨.inl, fun hz => hz.elim id (fun ⟨t, ht, _⟩ => by simp at ht)⟩)

theorem minJ {C : Itm → Prop} {seen : List Int} {e : Itm} {y : Int} {f : List Int} {j : Nat} (hj : j < f.length) {M : List Itm} {t : Int} (ht : f[j] = t) (hb : bit (seen.getD y.toNat 0) t.toNat = false)
    (h : MinOf (fun z => (C z ∨ FJ seen e y (f.take j) z) ∨ z = (e.1 ++ [y], t)) M) : MinOf (fun z => C z ∨ FJ seen e y (f.take (j + 1)) z) M := by
  refine h.congr (fun z => ?_)
  constructor
  · rintro ((h | ⟨u, hu, h⟩) | rfl)
    · exact .inl h
    · exact .inr ⟨u, (mem_takeS hj).2 (.inl hu), h⟩
    · exact .inr ⟨t, (mem_takeS hj).2 (.inr ht.symm), hb, rfl⟩
  · rintro (g | ⟨u, hu, g⟩)
    · exact .inl (.inl g)
    · rcases (mem_takeS hj).1 hu with hu | hu
      · exact .inl (.inr ⟨u, hu, g⟩)
      · rw [ht] at hu; subst hu; exact .inr g.2

theorem minJ_skip {C : Itm → Prop} {seen : List Int} {e : Itm} {y : Int} {f : List Int} {j : Nat} (hj : j < f.length) {M : List Itm} {t : Int} (ht : f[j] = t) (hb : bit (seen.getD y.toNat 0) t.toNat = true)
    (h : MinOf (fun z => C z ∨ FJ seen e y (f.take j) z) M) : MinOf (fun z => C z ∨ FJ seen e y (f.take (j + 1)) z) M := by
  refine h.congr (fun z => ?_)
  constructor
  · rintro (h | ⟨u, hu, h⟩)
    · exact .inl h
    · exact .inr ⟨u, (mem_takeS hj).2 (.inl hu), h⟩
  · rintro (g | ⟨u, hu, g⟩)
    · exact .inl g
    · rcases (mem_takeS hj).1 hu with hu | hu
      · exact .inr ⟨u, hu, g⟩
      · rw [ht] at hu; subst hu; rw [hb] at g; cases g.1

theorem minJ_end {C : Itm → Prop} {seen : List Int} {e : Itm} {ys f : List Int} {k : Nat} (hk : k < ys.length) {M : List Itm} {y : Int} (hy : ys[k] = y)
    (h : MinOf (fun z => (C z ∨ FK seen e (ys.take k) f z) ∨ FJ seen e y (f.take f.length) z) M) : MinOf (fun z => C z ∨ FK seen e (ys.take (k + 1)) f z) M := by
  rw [List.take_length] at h
  refine h.congr (fun z => ?_)
  constructor
  · rintro ((h | ⟨u, hu, h⟩) | h)
    · exact .inl h
    · exact .inr ⟨u, (mem_takeS hk).2 (.inl hu), h⟩
    · exact .inr ⟨y, (mem_takeS hk).2 (.inr hy.symm), h⟩
  · rintro (g | ⟨u, hu, g⟩)
    · exact .inl (.inl g)
    · rcases (mem_takeS hk).1 hu with hu | hu
      · exact .inl (.inr ⟨u, hu, g⟩)
      · rw [hy] at hu; subst hu; exact .inr g

theorem minK_start {C : Itm → Prop} {seen : List Int} {e : Itm} {ys f : List Int} {M : List Itm} (h : MinOf C M) : MinOf (fun z => C z ∨ FK seen e (ys.take 0) f z) M :=
  h.congr (fun z => ⟨.inl, fun hz => hz.elim id (fun ⟨t, ht, _⟩ => by simp at ht)⟩)

theorem minK_end {c : Int} {ss : List Stm} {seen : List Int} {N : List Itm} {i : Nat} (hi : i < N.length) {e : Itm} (he : N[i]? = some e) {ys f : List Int} (hys : nx ss (lastI e.1).toNat = ys) (hf : factsOf c ss e = f) {M : List Itm}
    (h : MinOf (fun z => FI c ss seen (N.take i) z ∨ FK seen e (ys.take ys.length) f z) M) : MinOf (FI c ss seen (N.take (i + 1))) M := by
  have hne : N[i] = e := by simpa [hi] using he
  rw [List.take_length] at h
  refine h.congr (fun z => ?_)
  constructor
  · rintro (⟨u, hu, h⟩ | h)
    · exact ⟨u, (mem_takeS hi).2 (.inl hu), h⟩
    · exact ⟨e, (mem_takeS hi).2 (.inr hne.symm), by rw [hys, hf]; exact h⟩
  · rintro ⟨u, hu, g⟩
    rcases (mem_takeS hi).1 hu with hu | hu
    · exact .inl ⟨u, hu, g⟩
    · rw [hne] at hu; subst hu; rw [hys, hf] at g; exact .inr g

theorem minI_start {c : Int} {ss : List Stm} {seen : List Int} {N : List Itm} : MinOf (FI c ss seen (N.take 0)) [] :=
  MinOf.nil.congr (fun z => ⟨fun h => h.elim, fun ⟨e, he, _⟩ => by simp at he⟩)

theorem fi_cand {c : Int} {ss : List Stm} {s : Int} {L : Nat} {N : List Itm} {seen : List Int} (hp : procOk ss = true) (h : Layer c ss s L N seen) (z : Itm) : FI c ss seen N z ↔ Cand c ss seen N z := by
  constructor
  · rintro ⟨e, he, y, hy, t, ht, hb, rfl⟩
    obtain ⟨_, i, u, hu, e2, hB, _⟩ := h.item e he
    obtain ⟨j, hj, hjl⟩ := RW_in hp hB.1
    have ej : (lastI e.1).toNat = j := by omega
    obtain ⟨y', rfl, _⟩ := nx_in hp hjl y (by rw [ej] at hy; exact hy)
    obtain ⟨t', ht', rfl, hbt⟩ := mem_factsL.1 ht
    exact ⟨e, he, y', t', hy, ht', hbt, by simpa using hb, rfl⟩
  · rintro ⟨e, he, y, t, hy, ht, hb, hs, rfl⟩
    exact ⟨e, he, y, hy, t, mem_factsL.2 ⟨t, ht, rfl, hb⟩, by simpa using hs, rfl⟩

theorem minI_end {c : Int} {ss : List Stm} {s : Int} {L : Nat} {N : List Itm} {seen : List Int} (hp : procOk ss = true) (h : Layer c ss s L N seen) {M : List Itm} (hM : MinOf (FI c ss seen (N.take N.length)) M) : MinOf (Cand c ss seen N) M := by
  rw [List.take_length] at hM
  exact hM.congr (fi_cand hp h)

theorem fj_ok {n L : Nat} {seen : List Int} {e : Itm} {y : Nat} {f : List Int} (he : e.1.length = L) (hy : y < n) (hf : ∀ x ∈ f, ∃ t : Nat, t < 7 ∧ x = (t : Int)) {z : Itm} (h : FJ seen e y f z) : ItmOk n (L + 1) z := by
  obtain ⟨t, ht, _, rfl⟩ := h
  obtain ⟨t', h7, rfl⟩ := hf t ht
  exact ⟨by simp [he], y, t', hy, h7, lastI_snoc _ _, rfl⟩

theorem fk_ok {n L : Nat} {seen : List Int} {e : Itm} {ys f : List Int} (he : e.1.length = L) (hy : ∀ y ∈ ys, ∃ i : Nat, y = (i : Int) ∧ i < n) (hf : ∀ x ∈ f, ∃ t : Nat, t < 7 ∧ x = (t : Int)) {z : Itm} (h : FK seen e ys f z) : ItmOk n (L + 1) z := by
  obtain ⟨y, hy', h⟩ := h
  obtain ⟨i, rfl, hi⟩ := hy y hy'
  exact fj_ok he hi hf h

theorem facts_in {c : Int} {ss : List Stm} {e : Itm} : ∀ x ∈ factsOf c ss e, ∃ t : Nat, t < 7 ∧ x = (t : Int) := fun x hx => by
  obtain ⟨t, h1, h2, _⟩ := mem_factsL.1 hx
  exact ⟨t, h1, h2⟩

theorem fi_ok {c : Int} {ss : List Stm} {s : Int} {L : Nat} {N : List Itm} {seen : List Int} (hp : procOk ss = true) (h : Layer c ss s L N seen) {i : Nat} {z : Itm} (hz : FI c ss seen (N.take i) z) : ItmOk ss.length (L + 1) z := by
  obtain ⟨e, he, hz⟩ := hz
  obtain ⟨hl, i, u, hu, e2, hB, _⟩ := h.item e (List.mem_of_mem_take he)
  obtain ⟨j, hj, hjl⟩ := RW_in hp hB.1
  have ej : (lastI e.1).toNat = j := by omega
  exact fk_ok hl (fun y hy => by rw [ej] at hy; exact nx_in hp hjl y hy) facts_in hz

/-- The ways and facts that are made, above all of wy; between F0 and F1 lies what is only read. -/
structure NS (wy wF : World) (F0 F1 : Nat) (M : List Itm) (gn cn gm cm : Nat) (us : List Value) (wr : World) : Prop where
  mem : PN wy.heap.size (.slice (some ⟨gn, 0, none⟩) M.length cn) us (M.map Prod.fst) (.slice (some ⟨gm, 0, none⟩) M.length cm) (M.map Prod.snd) wr
  old : Below wy.heap.size wy wr
  fix : ∀ b, F0 ≤ b → b < F1 → wr.heap[b]? = wF.heap[b]?
  up : F1 ≤ wr.heap.size
  offn : gn < F0 ∨ F1 ≤ gn
  offm : gm < F0 ∨ F1 ≤ gm

section
variable {wy wF : World} {F0 F1 : Nat} {M : List Itm} {gn cn gm cm : Nat} {us : List Value} {wr wr' : World}

theorem NS.below (h : NS wy wF F0 F1 M gn cn gm cm us wr) (hb : Below wr.heap.size wr wr') : NS wy wF F0 F1 M gn cn gm cm us wr' :=
  ⟨h.mem.below hb, h.old.trans (hb.mono h.old.size), fun b h0 h1 => (hb.block b (Nat.lt_of_lt_of_le h1 h.up)).trans (h.fix b h0 h1), Nat.le_trans h.up hb.size, h.offn, h.offm⟩

theorem NS.ltn (h : NS wy wF F0 F1 M gn cn gm cm us wr) : wy.heap.size ≤ gn ∧ gn < wr.heap.size := h.mem.row.row.lt gn rfl
theorem NS.ltm (h : NS wy wF F0 F1 M gn cn gm cm us wr) : wy.heap.size ≤ gm ∧ gm < wr.heap.size := h.mem.fac.lt gm rfl

theorem NS.row (h : NS wy wF F0 F1 M gn cn gm cm us wr) {base : Nat} {T : TypeId} {n : Nat} {v : Value} {xs : List Value} (ho : wF.ownsRow base T 1 v n xs) (hk : ∀ k, v.ownBlock = some k → F0 ≤ k ∧ k < F1) : wr.ownsRow base T 1 v n xs :=
  own_same ho (fun k e => h.fix k (hk k e).1 (hk k e).2)

theorem NS.cellF (h : NS wy wF F0 F1 M gn cn gm cm us wr) {p : Addr} {x : Value} (h0 : F0 ≤ p.block) (h1 : p.block < F1) (hc : wF.cell? p = some x) : wr.cell? p = some x := by
  unfold World.cell? at hc ⊢
  rw [h.fix _ h0 h1]
  exact hc

theorem NS.enter (h : NS wy wF F0 F1 M gn cn gm cm us wr) (hb : Below wr.heap.size wr wr') : NS wy wr' wr.heap.size wr'.heap.size M gn cn gm cm us wr' :=
  ⟨h.mem.below hb, h.old.trans (hb.mono h.old.size), fun _ _ _ => rfl, Nat.le_refl _, .inl h.ltn.2, .inl h.ltm.2⟩

theorem NS.leave (h : NS wy wF F0 F1 M gn cn gm cm us wr) : NS wy wy wy.heap.size wy.heap.size M gn cn gm cm us wr :=
  ⟨h.mem, h.old, fun b h0 h1 => absurd h1 (by omega), h.old.size, (Nat.lt_or_ge _ _), (Nat.lt_or_ge _ _)⟩

theorem NS.item (h : NS wy wF F0 F1 M gn cn gm cm us wr) {m : Nat} (hM : ∀ z ∈ M, z.1.length = m + 1) {k : Nat} (hk : k < M.length) :
    ∃ (e : Itm) (a ca : Nat), M[k]? = some e ∧ wr.cell? ⟨gn, k, none⟩ = some (.slice (some ⟨a, 0, none⟩) (m + 1) ca) ∧ wr.cell? ⟨a, m, none⟩ = some (.int .i64 (lastI e.1)) ∧ wr.cell? ⟨gm, k, none⟩ = some (.int .i64 e.2) ∧ us[k]? = some (.slice (some ⟨a, 0, none⟩) (m + 1) ca) ∧ wr.ownsRow wy.heap.size 2 1 (.slice (some ⟨a, 0, none⟩) (m + 1) ca) (m + 1) (ints e.1) := by
  have hl := hM M[k] (List.getElem_mem hk)
  have hrow := h.mem.row
  have hml : (M.map Prod.fst).length = M.length := by simp
  rw [← hml] at hrow
  obtain ⟨u, hu, hc, ho⟩ := hrow.at (j := k) (by omega)
  have e1 : (M.map Prod.fst)[k]'(by omega) = M[k].1 := by simp
  rw [e1, hl] at ho
  rcases own_shape ho with ⟨_, e3, _⟩ | ⟨ga, gc, e3, _⟩
  · omega
  · subst e3
    refine ⟨M[k], ga, gc, by simp [hk], hc, ?_, ?_, hu, ho⟩
    · rw [ho.cellAt m (by omega)]
      have : M[k].1[m]? = some (lastI M[k].1) := by
        rw [lastI_at (k := m) (by omega), List.getD_eq_getElem?_getD, List.getElem?_eq_getElem (by omega)]
        rfl
      simp [ints, this]
    · have hf := h.mem.fac
      have hfl : (M.map Prod.snd).length = M.length := by simp
      rw [hfl] at hf
      rw [hf.cellAt k (by omega)]
      simp [ints, hk]

theorem NS.new (h : NS wy wF F0 F1 M gn cn gm cm us wr) {x : Itm} {u : Value} (hu : wr.ownsRow wy.heap.size 2 1 u x.1.length (ints x.1)) (hap : ∀ k, u.ownBlock = some k → gm ≠ k)
    {wa w8 wb w9 : World} {g8 c8 g9 c9 : Nat} (ba : Below wr.heap.size wr wa) (own8 : w8.ownsRow wy.heap.size 26 1 (.slice (some ⟨g8, 0, none⟩) (M.length + 1) c8) (M.length + 1) (us ++ [u])) (grow8 : wa.grownBy w8 (some gn)) (pl8 : gn = g8 ∨ g8 = wa.heap.size)
    (bb : Below w8.heap.size w8 wb) (own9 : w9.ownsRow wy.heap.size 2 1 (.slice (some ⟨g9, 0, none⟩) (M.length + 1) c9) (M.length + 1) (ints (M.map Prod.snd) ++ [.int .i64 x.2])) (grow9 : wb.grownBy w9 (some gm)) (pl9 : gm = g9 ∨ g9 = wb.heap.size) :
    NS wy wF F0 F1 (M ++ [x]) g8 c8 g9 c9 (us ++ [u]) w9 := by
  have G8 : wr.grownBy w8 (some gn) := grown_trans (grown_of_below ba (some gn)) grow8
  have G9 : w8.grownBy w9 (some gm) := grown_trans (grown_of_below bb (some gm)) grow9
  have hfl : (M.map Prod.fst).length = M.length := by simp
  have hsl : (M.map Prod.snd).length = M.length := by simp
  have n8 : PN wy.heap.size (.slice (some ⟨g8, 0, none⟩) (M.length + 1) c8) (us ++ [u]) (M.map Prod.fst ++ [x.1]) (.slice (some ⟨gm, 0, none⟩) M.length cm) (M.map Prod.snd) w8 :=
    h.mem.way hu (fun k hk e => hap k hk (by simpa [Value.ownBlock] using e)) (by rw [hfl]; exact own8) G8
  have n9 := (n8.below bb).fact (f := x.2) (by rw [hsl]; exact own9) grow9 (pl9.elim (fun e => .inl (by rw [e]; rfl)) (fun e => .inr (by omega)))
  have s1 := ba.size
  have s2 := G8.size
  have s3 := G9.size
  have s4 := bb.size
  have sn := h.ltn
  have sm := h.ltm
  have up := h.up
  refine ⟨by simpa using n9, (h.old.grown G8 h.old.size (fun j e => by cases e; omega)).grown G9 (Nat.le_trans h.old.size s2) (fun j e => by cases e; omega), fun b h0 h1 => ?_, by omega, ?_, ?_⟩
  · have e1 := h.offn
    have e2 := h.offm
    exact (G9.block b (by omega) (fun e => by cases e; omega)).trans ((G8.block b (by omega) (fun e => by cases e; omega)).trans (h.fix b h0 h1))
  · rcases pl8 with rfl | rfl
    · exact h.offn
    · exact .inr (by omega)
  · rcases pl9 with rfl | rfl
    · exact h.offm
    · have := grow8.size; exact .inr (by omega)

theorem NS.put (h : NS wy wF F0 F1 M gn cn gm cm us wr) {x : Itm} {u : Value} {a : Nat} {e : Itm} (ha : M[a]? = some e) (h2 : e.2 = x.2) (hu : wr.ownsRow wy.heap.size 2 1 u x.1.length (ints x.1)) (hap : ∀ k, u.ownBlock = some k → gm ≠ k) : NS wy wF F0 F1 (M.set a x) gn cn gm cm (us.set a u) (wr.setCell ⟨gn, a, none⟩ u) := by
  obtain ⟨hal, hae⟩ := List.getElem?_eq_some_iff.1 ha
  have hfl : (M.map Prod.fst).length = M.length := by simp
  have hm := h.mem
  have hg := grown_setCell1H wr gn a u
  have hlen : (M.set a x).length = M.length := by simp
  have e1 : (M.set a x).map Prod.fst = (M.map Prod.fst).set a x.1 := by rw [List.map_set]
  have e2 : (M.set a x).map Prod.snd = M.map Prod.snd := by
    rw [List.map_set]
    apply List.ext_getElem?
    intro j
    by_cases hj : a = j
    · subst hj
      rw [List.getElem?_set_self (by simpa using hal)]
      simp [hal, hae, h2]
    · rw [List.getElem?_set_ne hj]
  have hm' : PN wy.heap.size (.slice (some ⟨gn, 0, none⟩) (M.map Prod.fst).length cn) us (M.map Prod.fst) (.slice (some ⟨gm, 0, none⟩) M.length cm) (M.map Prod.snd) wr := by rw [hfl]; exact hm
  have hrow' : (wr.setCell ⟨gn, a, none⟩ u).ownsRow wy.heap.size 26 1 (.slice (some ⟨gn, 0, none⟩) (M.map Prod.fst).length cn) (M.map Prod.fst).length (us.set a u) := by
    simpa using (hm'.row.row.stored a u).1
  have hp := hm'.put (xs := x.1) (by rw [hfl]; exact hal) hu (fun k hk e => hap k hk (by simpa [Value.ownBlock] using e)) hrow'
  refine ⟨?_, h.old.grown hg h.old.size (fun j e => by cases e; exact h.ltn.1), fun b h0 h1 => (hg.block b (Nat.lt_of_lt_of_le h1 h.up) (fun e => by cases e; have := h.offn; omega)).trans (h.fix b h0 h1), Nat.le_trans h.up hg.size, h.offn, h.offm⟩
  rw [hlen, e1, e2]
  rw [hfl] at hp
  simpa using hp
end

end Go.Proofs.Ytciccbbgamklbaa

/-
  A region that draws its order and whose last operations write what its loads read: S need not hold behind the operations that are late (each of them waits on every operation that is taken first).
-/
namespace Go.Proofs.Ytciccbbgamklbaa
open Go.RowKit

section
variable {P : Program} {ops : Array Oper} {Q : Exit → Act → World → Prop} {md : Region.Mode} {S : World → Prop} {late : Nat → Bool}

def wpAnyG (P : Program) (md : Region.Mode) (ops : Array Oper) (Q : Exit → Act → World → Prop) (S : World → Prop) (late : Nat → Bool) : Nat → Array Bool → Act → World → Prop
  | 0, listed, a, w => Region.ready md ops listed = [] ∧ Q .normal a w
  | fuel + 1, listed, a, w => (Region.ready md ops listed = [] → Q .normal a w) ∧
    ∀ i ∈ Region.ready md ops listed, wpOp P ops Q i (fun a' w' => (late i = true ∨ S w') ∧ wpAnyG P md ops Q S late fuel (listed.setIfInBounds i true) a' w') a w

theorem wpAny_of_late : ∀ (fuel : Nat) (listed : Array Bool) (a : Act) (w : World), wpAnyG P md ops Q S late fuel listed a w → wpAny P md ops Q fuel listed a w
  | 0, _, _, _, h => h
  | fuel + 1, _, _, _, h => ⟨h.1, fun i hi => wpOp_mono (fun a' w' h' => wpAny_of_late fuel _ a' w' h'.2) (h.2 i hi)⟩

/-- Each late operation waits on i. -/
def waitsB (md : Region.Mode) (ops : Array Oper) (late : Nat → Bool) (i : Nat) : Bool :=
  (List.range ops.size).all fun j => !late j || ((ops[j]?).map (fun o => o.after.any fun e => Region.binds md e && e.on == i)).getD true

theorem waits_spec {i j : Nat} {oj : Oper} (h : waitsB md ops late i = true) (hj : ops[j]? = some oj) (hl : late j = true) : ∃ e ∈ oj.after, Region.binds md e = true ∧ e.on = i := by
  unfold waitsB at h
  rw [List.all_eq_true] at h
  have hlt : j < ops.size := (Array.getElem?_eq_some_iff.1 hj).1
  have h1 := h j (List.mem_range.2 hlt)
  rw [hj, hl] at h1
  simp only [Bool.not_true, Bool.false_or, Option.map_some, Option.getD_some, Array.any_eq_true] at h1
  obtain ⟨k, hk, h2⟩ := h1
  simp only [Bool.and_eq_true, beq_iff_eq] at h2
  exact ⟨_, Array.getElem_mem hk, h2.1, h2.2⟩

theorem wpAnyG_first {i : Nat} {oi : Oper} {v : Value} (hi : ops[i]? = some oi) (hsel : ∀ (j : Nat) (o : Oper) cs b, ops[j]? = some o → o.op ≠ .select cs b)
    (hQ : ∀ c a w, Q (.panic c) (a.put oi.dst v) w → Q (.panic c) a w) (hlate : waitsB md ops late i = true) (hli : late i = false) :
    ∀ (fuel : Nat) (listed : Array Bool) (a : Act) (w : World),
      (∀ j oj, ops[j]? = some oj → j ≠ i → listed.getD j true = false → (∀ e ∈ oj.after, Region.binds md e = true → e.on ≠ i) → oi.apart ops oj = true) →
      i ∈ Region.ready md ops listed → YieldsIf P ops S oi v a → S w →
      wpAnyG P md ops Q S late fuel (listed.setIfInBounds i true) (a.put oi.dst v) w → wpAnyG P md ops Q S late (fuel + 1) listed a w := by
  intro fuel
  induction fuel with
  | zero =>
    intro listed a w _ hr hy hS H
    refine ⟨fun h => (by rw [h] at hr; cases hr), fun j hj => ?_⟩
    by_cases hji : j = i
    · subst hji; exact hy.wpOp hi hS ⟨.inr hS, H⟩
    · have := ready_mono hj hji
      rw [H.1] at this
      cases this
  | succ fuel ih =>
    intro listed a w hfree hr hy hS H
    refine ⟨fun h => (by rw [h] at hr; cases hr), fun j hj => ?_⟩
    by_cases hji : j = i
    · subst hji; exact hy.wpOp hi hS ⟨.inr hS, H⟩
    · have h1 := H.2 j (ready_mono hj hji)
      obtain ⟨hjun, oj, hoj, hall⟩ := mem_ready.1 hj
      have hnot : ∀ e ∈ oj.after, Region.binds md e = true → e.on ≠ i := fun e he hb heq => by
        have h1 := hall e he hb
        have h0 := (mem_ready.1 hr).1
        rw [heq] at h1
        rcases Nat.lt_or_ge i listed.size with h' | h'
        · simp [h'] at h0 h1; rw [h0] at h1; cases h1
        · simp [Array.getElem?_eq_none h'] at h1
      have hjl : ¬ late j = true := fun hl => by
        obtain ⟨e, he, hb, heq⟩ := waits_spec hlate hoj hl
        exact hnot e he hb heq
      have h2 := wpOp_putIf hoj (hfree j oj hoj hji hjun hnot) (fun cs b => hsel i oi cs b hi) (fun cs b => hsel j oj cs b hoj) hQ hy h1
      have hfree' : ∀ k ok, ops[k]? = some ok → k ≠ i → (listed.setIfInBounds j true).getD k true = false →
          (∀ e ∈ ok.after, Region.binds md e = true → e.on ≠ i) → oi.apart ops ok = true := fun k ok hk hki hun hno => by
        refine hfree k ok hk hki ?_ hno
        by_cases hjk : j = k
        · subst hjk; exact hjun
        · rw [getD_set_ne true hjk] at hun; exact hun
      refine wpOp_mono (fun a' w' h3 => ?_) h2
      have hS' : S w' := h3.2.1.resolve_left hjl
      refine ⟨.inr hS', ih (listed.setIfInBounds j true) a' w' hfree' (ready_mono hr (Ne.symm hji)) h3.1 hS' ?_⟩
      rw [Array.setIfInBounds_comm _ _ hji]
      exact h3.2.2

theorem wpAnyG_take {i : Nat} {oi : Oper} {v : Value} {fuel : Nat} {listed : Array Bool} {a : Act} {w : World} (hi : ops[i]? = some oi)
    (hs : Region.noSelect ops = true) (hf : Region.free md ops listed i = true) (hr : (Region.ready md ops listed).contains i = true) (hl : (waitsB md ops late i && !late i) = true)
    (hQ : ∀ c a w, Q (.panic c) (a.put oi.dst v) w → Q (.panic c) a w) (hy : YieldsIf P ops S oi v a) (hS : S w)
    (h : wpAnyG P md ops Q S late fuel (listed.setIfInBounds i true) (a.put oi.dst v) w) : wpAnyG P md ops Q S late (fuel + 1) listed a w := by
  simp only [Bool.and_eq_true, Bool.not_eq_true'] at hl
  exact wpAnyG_first hi (Region.noSelect_spec hs) hQ hl.1 hl.2 fuel listed a w (Region.free_spec hi hf) (by simpa using hr) hy hS h

def AllReadyG (P : Program) (md : Region.Mode) (ops : Array Oper) (Q : Exit → Act → World → Prop) (S : World → Prop) (late : Nat → Bool) (fuel : Nat) (listed : Array Bool) (a : Act) (w : World) (rs : List Nat) : Prop :=
  ∀ i ∈ rs, wpOp P ops Q i (fun a' w' => (late i = true ∨ S w') ∧ wpAnyG P md ops Q S late fuel (listed.setIfInBounds i true) a' w') a w
theorem AllReadyG.nil {fuel : Nat} {listed : Array Bool} {a : Act} {w : World} : AllReadyG P md ops Q S late fuel listed a w [] := fun _ h => by cases h
theorem AllReadyG.cons {fuel : Nat} {listed : Array Bool} {a : Act} {w : World} {i : Nat} {o : Oper} {rs : List Nat} (ho : ops[i]? = some o)
    (h : ∀ K' : Act → World → Prop, Shut (∀ a w, (late i = true ∨ S w) → (late i = true ∨ S w → wpAnyG P md ops Q S late fuel (listed.setIfInBounds i true) a w) → K' a w) → if Region.wanted o (yielded ops a.tmps) = true then Oper.wp P o a w K' Q else K' (a.put o.dst undef) w)
    (hs : AllReadyG P md ops Q S late fuel listed a w rs) : AllReadyG P md ops Q S late fuel listed a w (i :: rs) := fun j hj => by
  rcases List.mem_cons.1 hj with rfl | hj
  · exact wpOp_step ho (fun K' hK => h K' (fun a w hS hW => hK a w ⟨hS, hW hS⟩))
  · exact hs j hj
theorem wpAnyG_ready {rs : List Nat} {fuel : Nat} {listed : Array Bool} {a : Act} {w : World} (hr : Region.ready md ops listed = rs) (hne : rs ≠ [])
    (h : AllReadyG P md ops Q S late fuel listed a w rs) : wpAnyG P md ops Q S late (fuel + 1) listed a w := ⟨fun h0 => absurd (hr ▸ h0) hne, hr ▸ h⟩
theorem wpAnyG_done {listed : Array Bool} {a : Act} {w : World} (hr : Region.ready md ops listed = []) (h : Q .normal a w) : ∀ fuel, wpAnyG P md ops Q S late fuel listed a w
  | 0 => ⟨hr, h⟩
  | _ + 1 => ⟨fun _ => h, by rw [hr]; simp⟩
theorem wp_region_late {id : Nat} {a : Act} {w : World} (S : World → Prop) (late : Nat → Bool) (hm : P.follows .mixedOrders = true) (hS : S w.drew)
    (h : S w.drew → wpAnyG P .any ops Q S late ops.size (Array.replicate ops.size false) a w.drew) : (Code.region id ops true).wp P Q a w :=
  wp_region_any hm (wpAny_of_late _ _ _ _ (h hS))

/-- A slice appended to one that is owned: it is nil, or a row that is owned. -/
theorem wp_append_row {o : Oper} {a : Act} {w : World} {K : Act → World → Prop} (s x : Operand) (t : TypeId)
    (ho : o.op = .call { callee := .builtin .append, args := #[s, x], argTypes := #[t, t] })
    (base : Nat) (e : TypeId) (i : TypeInfo) (z : Value) (size bytes : Nat) (ht : P.underlying t = some (.slice e)) (hi : P.info? e = some i) (hz : i.zero = some z)
    (hsize : i.size = size) (hby : i.bytes = bytes) (hzs : z.cells.size = size) (hsz : 0 < size)
    (v : Value) (n : Nat) (xs : List Value) (hs : a.eval s = v) (hown : w.ownsRow base e size v n xs)
    (u : Value) (base' m : Nat) (ys : List Value) (hx : a.eval x = u) (hsrc : w.ownsRow base' e size u m ys) (h1 : ∀ y ∈ ys, y.oneCell' = true)
    (h63 : n + m ≤ maxLen) (hbytes : (n + m) * bytes ≤ 140737488355328) (hbase : base ≤ w.heap.size)
    (h : ∀ v' w', w'.ownsRow base e size v' (n + m) (xs ++ ys) → w.grownBy w' v.ownBlock → K (a.put o.dst v') w') : Oper.wp P o a w K Q := by
  rcases hsrc.2 with ⟨rfl, rfl⟩ | ⟨g, cap, cur, rfl, _⟩
  · have hy : ys = [] := List.eq_nil_of_length_eq_zero (by have := hsrc.1; omega)
    subst hy
    have hrun := run_append_owned_none (P := P) (w := w) base t o.type e i size ht hi v n xs hown
    unfold Oper.wp execOp
    simp only [ho, resolve, invoke, builtin, Sem.run_bind, Sem.run_pure, Result.andThen_ok, List.map_toArray, List.map_cons, List.map_nil, hs, hx, hrun]
    exact h v w (by simpa using hown) (World.grownBy.refl _ _)
  · obtain ⟨v', w', hr, h2, h3, _, _⟩ := run_append_own_at (P := P) w base t o.type e i z size bytes ht hi hz hsize hby hzs hsz v n xs hown ⟨g, 0, none⟩ m cap ys hsrc.1 (hsrc.cells rfl) h1 h63 hbytes hbase
    unfold Oper.wp execOp
    simp only [ho, resolve, invoke, builtin, Sem.run_bind, Sem.run_pure, Result.andThen_ok, List.map_toArray, List.map_cons, List.map_nil, hs, hx, hr]
    exact h v' w' h2 h3

theorem step_append_row {o : Oper} {a : Act} {w : World} {K : Act → World → Prop} {E : Prop} (hgd : o.guard = none) (s x : Operand) (t : TypeId)
    (ho : o.op = .call { callee := .builtin .append, args := #[s, x], argTypes := #[t, t] })
    (base : Nat) (e : TypeId) (i : TypeInfo) (z : Value) (size bytes : Nat) (ht : P.underlying t = some (.slice e)) (hi : P.info? e = some i) (hz : i.zero = some z)
    (hsize : i.size = size) (hby : i.bytes = bytes) (hzs : z.cells.size = size) (hsz : 0 < size)
    (v : Value) (n : Nat) (xs : List Value) (hs : a.eval s = v) (hown : w.ownsRow base e size v n xs)
    (u : Value) (base' m : Nat) (ys : List Value) (hx : a.eval x = u) (hsrc : w.ownsRow base' e size u m ys) (h1 : ∀ y ∈ ys, y.oneCell' = true)
    (h63 : n + m ≤ maxLen) (hbytes : (n + m) * bytes ≤ 140737488355328) (hbase : base ≤ w.heap.size)
    (h : ∀ v' w', w'.ownsRow base e size v' (n + m) (xs ++ ys) → w.grownBy w' v.ownBlock → K (a.put o.dst v') w') :
    if Region.wanted o (yielded ops a.tmps) = true then Oper.wp P o a w K Q else E := by
  have hw : Region.wanted o (yielded ops a.tmps) = true := by simp [Region.wanted, hgd]
  rw [if_pos hw]
  exact wp_append_row s x t ho base e i z size bytes ht hi hz hsize hby hzs hsz v n xs hs hown u base' m ys hx hsrc h1 h63 hbytes hbase h

theorem step_append_rowG {o : Oper} {a : Act} {w : World} {K : Act → World → Prop} {E : Prop} (hw : Region.wanted o (yielded ops a.tmps) = true) (s x : Operand) (t : TypeId)
    (ho : o.op = .call { callee := .builtin .append, args := #[s, x], argTypes := #[t, t] })
    (base : Nat) (e : TypeId) (i : TypeInfo) (z : Value) (size bytes : Nat) (ht : P.underlying t = some (.slice e)) (hi : P.info? e = some i) (hz : i.zero = some z)
    (hsize : i.size = size) (hby : i.bytes = bytes) (hzs : z.cells.size = size) (hsz : 0 < size)
    (v : Value) (n : Nat) (xs : List Value) (hs : a.eval s = v) (hown : w.ownsRow base e size v n xs)
    (u : Value) (base' m : Nat) (ys : List Value) (hx : a.eval x = u) (hsrc : w.ownsRow base' e size u m ys) (h1 : ∀ y ∈ ys, y.oneCell' = true)
    (h63 : n + m ≤ maxLen) (hbytes : (n + m) * bytes ≤ 140737488355328) (hbase : base ≤ w.heap.size)
    (h : ∀ v' w', w'.ownsRow base e size v' (n + m) (xs ++ ys) → w.grownBy w' v.ownBlock → K (a.put o.dst v') w') :
    if Region.wanted o (yielded ops a.tmps) = true then Oper.wp P o a w K Q else E := by
  rw [if_pos hw]
  exact wp_append_row s x t ho base e i z size bytes ht hi hz hsize hby hzs hsz v n xs hs hown u base' m ys hx hsrc h1 h63 hbytes hbase h

/-- One more, where the operation is guarded and wanted. -/
theorem step_append_liesG {o : Oper} {a : Act} {K : Act → World → Prop} {E : Prop} (w : World) (hw : Region.wanted o (yielded ops a.tmps) = true) (s x : Operand) (t : TypeId)
    (ho : o.op = .call { callee := .builtin .append, args := #[s, x], argTypes := #[t, t] })
    (base : Nat) (e : TypeId) (i : TypeInfo) (z : Value) (size bytes : Nat) (ht : P.underlying t = some (.slice e)) (hi : P.info? e = some i) (hz : i.zero = some z)
    (hsize : i.size = size) (hby : i.bytes = bytes) (hzs : z.cells.size = size) (hsz : 0 < size)
    (v : Value) (n : Nat) (xs : List Value) (hs : a.eval s = v) (hown : w.ownsRow base e size v n xs)
    (ad : Addr) (m c : Nat) (news : List Value) (hx : a.eval x = .slice (some ad) m c) (hl : news.length = m * size) (hnews : ∀ j u, news[j]? = some u → w.cell? (ad.add j) = some u) (h1 : ∀ u ∈ news, u.oneCell' = true)
    (hm : 0 < m) (h63 : n + m ≤ maxLen) (hbytes : (n + m) * bytes ≤ 140737488355328) (hbase : base ≤ w.heap.size) (H : Nat) (hH : w.heap.size = H)
    (h : ∀ g cap w', w'.ownsRow base e size (.slice (some ⟨g, 0, none⟩) (n + m) cap) (n + m) (xs ++ news) → w.grownBy w' v.ownBlock → (v.ownBlock = some g ∨ g = H) → g < w'.heap.size → K (a.put o.dst (.slice (some ⟨g, 0, none⟩) (n + m) cap)) w') :
    if Region.wanted o (yielded ops a.tmps) = true then Oper.wp P o a w K Q else E := by
  rw [if_pos hw]
  exact wp_append_lies w s x t ho base e i z size bytes ht hi hz hsize hby hzs hsz v n xs hs hown ad m c news hx hl hnews h1 hm h63 hbytes hbase H hH h

theorem wpList_append_row {rest : List Oper} {o : Oper} {a : Act} (w : World) (hgd : o.guard = none) (s x : Operand) (t : TypeId)
    (ho : o.op = .call { callee := .builtin .append, args := #[s, x], argTypes := #[t, t] })
    (base : Nat) (e : TypeId) (i : TypeInfo) (z : Value) (size bytes : Nat) (ht : P.underlying t = some (.slice e)) (hi : P.info? e = some i) (hz : i.zero = some z)
    (hsize : i.size = size) (hby : i.bytes = bytes) (hzs : z.cells.size = size) (hsz : 0 < size)
    (v : Value) (n : Nat) (xs : List Value) (hs : a.eval s = v) (hown : w.ownsRow base e size v n xs)
    (u : Value) (base' m : Nat) (ys : List Value) (hx : a.eval x = u) (hsrc : w.ownsRow base' e size u m ys) (h1 : ∀ y ∈ ys, y.oneCell' = true)
    (h63 : n + m ≤ maxLen) (hbytes : (n + m) * bytes ≤ 140737488355328) (hbase : base ≤ w.heap.size)
    (h : ∀ v' w', w'.ownsRow base e size v' (n + m) (xs ++ ys) → w.grownBy w' v.ownBlock → wpList P ops Q rest (a.put o.dst v') w') : wpList P ops Q (o :: rest) a w :=
  wpList_plain hgd fun _ hK => wp_append_row s x t ho base e i z size bytes ht hi hz hsize hby hzs hsz v n xs hs hown u base' m ys hx hsrc h1 h63 hbytes hbase (fun v' w' h2 h3 => hK _ _ (h v' w' h2 h3))

theorem grown_setCellW (w : World) (b o : Nat) (v : Value) : w.grownBy (w.setCell ⟨b, o, none⟩ v) (some b) :=
  ⟨rfl, rfl, rfl, by simp [World.setCell], fun k _ hk => Below.heap_setCell w ⟨b, o, none⟩ v k (fun e => hk (by rw [e]))⟩

theorem later4 {G : Prop} {F R : Value → Value → Value → Value → World → Prop} (h : (∀ a b c d y, F a b c d y → R a b c d y) → G) (k : ∀ a b c d y, F a b c d y → R a b c d y) : G := h k
end

end Go.Proofs.Ytciccbbgamklbaa
