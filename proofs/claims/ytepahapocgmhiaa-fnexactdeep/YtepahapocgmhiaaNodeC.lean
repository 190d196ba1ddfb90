/-
  Chapter 1: which value a node holds; impl.nodesAt out of nodeAt.
-/
import Derived.Test.YtepahapocgmhiaaNodeB
import Derived.Test.YtepahapocgmhiaaPut
import Derived.OwnWalk
import Derived.Deep.Upon
import Derived.Deep.AppendLies
namespace Go.Proofs.Ytepahapocgmhiaa
open Go.RowKit
set_option linter.unusedVariables false
set_option linter.unusedSimpArgs false
set_option maxHeartbeats 8000000
set_option maxRecDepth 20000

section
variable {P : Program}
/-- The library's law on append of what lies in memory, said at a list of operations: where the new row's block comes from. -/
theorem wpList_appendN {Q : Exit → Act → World → Prop} {ops : Array Oper} {rest : List Oper} {o : Oper} {a : Act} (w : World) (hgd : o.guard = none) (s x : Operand) (t : TypeId)
    (ho : o.op = .call { callee := .builtin .append, args := #[s, x], argTypes := #[t, t] })
    (base : Nat) (e : TypeId) (i : TypeInfo) (z : Value) (size bytes : Nat) (ht : P.underlying t = some (.slice e)) (hi : P.info? e = some i) (hz : i.zero = some z)
    (hsize : i.size = size) (hby : i.bytes = bytes) (hzs : z.cells.size = size) (hsz : 0 < size)
    (v : Value) (n : Nat) (xs : List Value) (hs : a.eval s = v) (hown : w.ownsRow base e size v n xs)
    (ad : Addr) (m c : Nat) (news : List Value) (hx : a.eval x = .slice (some ad) m c) (hl : news.length = m * size) (hc : ∀ j u, news[j]? = some u → w.cell? (ad.add j) = some u) (h1 : ∀ u ∈ news, u.oneCell' = true) (hm : 0 < m)
    (h63 : n + m ≤ maxLen) (hbytes : (n + m) * bytes ≤ 140737488355328) (hbase : base ≤ w.heap.size)
    (h : ∀ v' w', w'.ownsRow base e size v' (n + m) (xs ++ news) → w.grownBy w' v.ownBlock → (∀ k, v'.ownBlock = some k → v.ownBlock = some k ∨ w.heap.size ≤ k) → wpList P ops Q rest (a.put o.dst v') w') : wpList P ops Q (o :: rest) a w :=
  wpList_plain hgd fun K hK => by
    refine wp_append_lies w s x t ho base e i z size bytes ht hi hz hsize hby hzs hsz v n xs hs hown ad m c news hx hl hc h1 hm h63 hbytes hbase _ rfl ?_
    intro g cap w' h2 h3 h4 h5
    refine hK _ _ (h _ w' h2 h3 (fun k hk => ?_))
    have hk : g = k := Option.some.inj hk
    subst hk
    rcases h4 with h4 | h4
    · exact .inl h4
    · exact .inr (by omega)
end

def StopN (p : Prop) : Prop := p
theorem stop_ofN {p : Prop} (h : StopN p) : p := h

/-- The cells from ua on hold the items, in blocks of F. -/
def RowN {α : Type} (w : World) (F : Nat → Prop) (R : Value → α → Prop) (ua : Option Addr) (its : List α) : Prop :=
  ∀ j x, its[j]? = some x → ∃ b off v, ua = some ⟨b, off, none⟩ ∧ F b ∧ w.cell? ⟨b, off + j, none⟩ = some v ∧ R v x
/-- The node v holds the value; its rows lie in blocks of F, its keys below gk. -/
def IsN : (d : Nat) → World → (Nat → Prop) → Nat → Value → Val d → Prop
  | 0, _, _, _, _, _ => False
  | d + 1, w, F, gk, v, (k, n, t, its, ks) =>
    (k = 1 → v = .iface 108 (.agg #[])) ∧ (k = 2 → v = .iface 93 (.agg #[.int .i64 n])) ∧ (k = 3 → v = .iface 94 (.agg #[.int .i64 n])) ∧ (k = 4 → v = .iface 96 (.agg #[.string t])) ∧
    (k = 5 → ∃ ua uc, v = .iface 86 (.agg #[.slice ua its.length uc]) ∧ RowN w F (IsN d w F gk) ua its) ∧
    (k = 6 → ∃ ua uc ka kc, v = .iface 88 (.agg #[.slice ua its.length uc, .slice ka ks.length kc]) ∧ RowN w F (IsN d w F gk) ua its ∧ ReadsL w gk (.slice ka ks.length kc) (ks.map .string))

theorem RowN.keep {α : Type} {w w' : World} {F F' : Nat → Prop} {R R' : Value → α → Prop} {ua : Option Addr} {its : List α} (h : RowN w F R ua its) (hk : ∀ b, F b → w'.heap[b]? = w.heap[b]?) (hF : ∀ b, F b → F' b) (hR : ∀ v x, R v x → R' v x) : RowN w' F' R' ua its := fun j x hx => by
  obtain ⟨b, off, v, h1, h2, h3, h4⟩ := h j x hx
  exact ⟨b, off, v, h1, hF b h2, (World.cell?_of_block (hk b h2)).trans h3, hR v x h4⟩
theorem IsN.keep : ∀ {d : Nat} {w w' : World} {F F' : Nat → Prop} {gk : Nat} {v : Value} {x : Val d}, IsN d w F gk v x → (∀ b, F b → w'.heap[b]? = w.heap[b]?) → (∀ b, b < gk → w'.heap[b]? = w.heap[b]?) → (∀ b, F b → F' b) → IsN d w' F' gk v x
  | 0, _, _, _, _, _, _, _, h, _, _, _ => h.elim
  | d + 1, w, w', F, F', gk, v, (k, n, t, its, ks), h, hk, hg, hF => by
    obtain ⟨h1, h2, h3, h4, h5, h6⟩ := h
    refine ⟨h1, h2, h3, h4, fun e => ?_, fun e => ?_⟩
    · obtain ⟨ua, uc, e1, e2⟩ := h5 e
      exact ⟨ua, uc, e1, e2.keep hk hF (fun v x hx => IsN.keep hx hk hg hF)⟩
    · obtain ⟨ua, uc, ka, kc, e1, e2, e3⟩ := h6 e
      exact ⟨ua, uc, ka, kc, e1, e2.keep hk hF (fun v x hx => IsN.keep hx hk hg hF), e3.keep (fun a v ha hv => (World.cell?_of_block (hg a.block ha)).trans hv) (Nat.le_refl _)⟩

/-- What nodeAt, nodesAt answer. -/
def NodeP {d : Nat} (x : Val d) (level left : Int) (g : Nat) (w : World) (e : Ending) (w' : World) : Prop :=
  ∃ (v : Value) (b : Bool) (l' : Int), e = .returned (.tuple #[v, .bool b]) ∧ (b = true ↔ RightV d x (7 - level) ∧ (cntV d x : Int) ≤ left) ∧ w'.heap[g]? = some (.cells #[.int .i64 l'] 83 (0, 0)) ∧
    (b = true → l' = left - cntV d x ∧ IsN d w' (fun k => w.heap.size ≤ k ∧ k < w'.heap.size) g v x) ∧ v.oneCell' = true ∧ w.grownBy w' (some g)
def NodesP {d : Nat} (its : List (Val d)) (level left : Int) (g : Nat) (w : World) (e : Ending) (w' : World) : Prop :=
  ∃ (u : Option Addr) (n c : Nat) (b : Bool) (l' : Int), e = .returned (.tuple #[.slice u n c, .bool b]) ∧ (b = true ↔ (∀ x ∈ its, RightV d x (7 - level)) ∧ (cntL its : Int) ≤ left) ∧ w'.heap[g]? = some (.cells #[.int .i64 l'] 83 (0, 0)) ∧
    (b = true → l' = left - cntL its ∧ n = its.length ∧ RowN w' (fun k => w.heap.size ≤ k ∧ k < w'.heap.size) (IsN d w' (fun k => w.heap.size ≤ k ∧ k < w'.heap.size) g) u its) ∧ w.grownBy w' (some g)

/-- nodeAt does what it should, for values of d levels. -/
def NAt (d : Nat) : Prop := ∀ (x : Val d) (cs : List Value) (level left : Int) (g : Nat) (w : World), 1 ≤ level → level ≤ 7 → 0 ≤ left → left ≤ 100 → g < w.heap.size → RdVL d w g cs x → w.heap[g]? = some (.cells #[.int .i64 left] 83 (0, 0)) →
  Calls Try.prog 52 #[.agg cs.toArray, .int .i64 level, .pointer (some ⟨g, 0, none⟩)] w (NodeP x level left g w)

theorem infoNode : (Try.prog.info? 54).map (fun i => (i.zero, i.size, i.bytes)) = some (some .nilIface, 1, 16) := by kernel_rfl

/-- The first j are read. -/
structure NS {d : Nat} (its : List (Val d)) (level left : Int) (g : Nat) (w : World) (j : Nat) (u : Value) (us : List Value) (W : World) : Prop where
  row : W.ownsRow w.heap.size 54 1 u j us
  each : ∀ (i : Nat) x v, its[i]? = some x → us[i]? = some v → IsN d W (fun k => w.heap.size ≤ k ∧ k < W.heap.size ∧ u.ownBlock ≠ some k) g v x
  right : ∀ x ∈ its.take j, RightV d x (7 - level)
  cnt : (cntL (its.take j) : Int) ≤ left
  bud : W.heap[g]? = some (.cells #[.int .i64 (left - cntL (its.take j))] 83 (0, 0))
  gr : w.grownBy W (some g)

theorem NS.cell {d : Nat} {its : List (Val d)} {level left : Int} {g j b o : Nat} {w W : World} {u v : Value} {us : List Value} (h : NS its level left g w j u us W) (hb : b < g) (hgw : g < w.heap.size) (hc : w.cell? ⟨b, o, none⟩ = some v) : W.cell? ⟨b, o, none⟩ = some v :=
  (World.cell?_of_block (h.gr.block b (by omega) (fun e => by cases e; omega))).trans hc

theorem IsN.form {d : Nat} {w : World} {F : Nat → Prop} {gk : Nat} {v : Value} {x : Val d} {deep : Int} (h : IsN d w F gk v x) (hr : RightV d x deep) : ∃ T z, v = .iface T z := by
  cases d with
  | zero => exact h.elim
  | succ d =>
    obtain ⟨k, n, t, its, ks⟩ := x
    obtain ⟨h1, h2, h3, h4, h5, h6⟩ := h
    have hl := hr.2.1
    obtain e | e | e | e | e | e : k = 1 ∨ k = 2 ∨ k = 3 ∨ k = 4 ∨ k = 5 ∨ k = 6 := by have := hl.lo; have := hl.hi; omega
    · exact ⟨_, _, h1 e⟩
    · exact ⟨_, _, h2 e⟩
    · exact ⟨_, _, h3 e⟩
    · exact ⟨_, _, h4 e⟩
    · obtain ⟨ua, uc, e, _⟩ := h5 e; exact ⟨_, _, e⟩
    · obtain ⟨ua, uc, ka, kc, e, _⟩ := h6 e; exact ⟨_, _, e⟩

theorem RdVL.form {d : Nat} {w : World} {g : Nat} {cs : List Value} {x : Val d} (h : RdVL d w g cs x) : ∃ (k n : Int) (t : ByteArray) (a1 : Option Addr) (n1 c1 : Nat) (a2 : Option Addr) (n2 c2 : Nat), cs = [.int .i64 k, .int .i64 n, .string t, .slice a1 n1 c1, .slice a2 n2 c2] := by
  cases d with
  | zero => exact h.elim
  | succ d =>
    obtain ⟨k, n, t, its, ks⟩ := x
    obtain ⟨iv, kv, rfl, ⟨ia, ic, rfl, _⟩, _, ⟨ka, kc, rfl, _⟩, _⟩ := h
    exact ⟨_, _, _, _, _, _, _, _, _, rfl⟩

/-- One node more. -/
theorem NS.more {d : Nat} {its : List (Val d)} {level left : Int} {g j : Nat} {w W W2 W3 : World} {u u' v : Value} {us : List Value} {x : Val d} (h : NS its level left g w j u us W) (hgw : g < w.heap.size) (hx : its[j]? = some x)
    (hr : RightV d x (7 - level)) (hc : (cntV d x : Int) ≤ left - cntL (its.take j)) (hB : Below W.heap.size W W2) (hg2 : W2.grownBy W3 (some g)) (hbud : W3.heap[g]? = some (.cells #[.int .i64 (left - cntL (its.take j) - cntV d x)] 83 (0, 0)))
    (hn : IsN d W3 (fun k => W2.heap.size ≤ k ∧ k < W3.heap.size) g v x) {W4 : World} (hown : W4.ownsRow w.heap.size 54 1 u' (j + 1) (us ++ [v])) (hgr : W3.grownBy W4 u.ownBlock) (hfr : ∀ k, u'.ownBlock = some k → u.ownBlock = some k ∨ W3.heap.size ≤ k) :
    NS its level left g w (j + 1) u' (us ++ [v]) W4 := by
  have hjl : j < its.length := (List.getElem?_eq_some_iff.1 hx).1
  have hxj : its[j] = x := (List.getElem?_eq_some_iff.1 hx).2
  have htk : its.take (j + 1) = its.take j ++ [x] := by rw [List.take_succ_eq_append_getElem hjl, hxj]
  have hct : cntL (its.take (j + 1)) = cntL (its.take j) + cntV d x := by rw [cntL_take its j hjl, hxj]
  have hus : us.length = j := by have := h.row.1; omega
  have s1 := h.gr.size
  have s2 := hB.size
  have s3 := hg2.size
  have s4 := hgr.size
  have hgu : u.ownBlock ≠ some g := fun e => by have := (h.row.lt g e).1; omega
  have hub : ∀ k, u.ownBlock = some k → w.heap.size ≤ k ∧ k < W.heap.size := fun k e => h.row.lt k e
  have keep : ∀ k, k < W.heap.size → k ≠ g → u.ownBlock ≠ some k → W4.heap[k]? = W.heap[k]? := fun k hk hkg hku =>
    ((hgr.block k (by omega) (fun e => hku e.symm)).trans (hg2.block k (by omega) (fun e => hkg (Option.some.inj e)))).trans (hB.block k hk)
  have lowk : ∀ k, k < g → W4.heap[k]? = W.heap[k]? := fun k hk => keep k (by omega) (by omega) (fun e => by have := (hub k e).1; omega)
  refine ⟨hown, fun i y z hy hz => ?_, fun y hy => ?_, by rw [hct]; omega, ?_, ?_⟩
  · rcases Nat.lt_or_ge i us.length with hi | hi
    · rw [List.getElem?_append_left hi] at hz
      refine (h.each i y z hy hz).keep (fun k hk => keep k hk.2.1 (by omega) hk.2.2) lowk (fun k hk => ⟨hk.1, by omega, fun e => ?_⟩)
      rcases hfr k e with h9 | h9
      · exact hk.2.2 h9
      · omega
    · rw [List.getElem?_append_right hi] at hz
      have hi0 : i - us.length = 0 := by
        have := (List.getElem?_eq_some_iff.1 hz).1
        simp at this; omega
      rw [hi0] at hz
      have hij : i = j := by omega
      subst hij
      have e1 : v = z := by simpa using hz
      have e2 : x = y := by rw [hx] at hy; exact Option.some.inj hy
      subst e1
      subst e2
      refine hn.keep (fun k hk => hgr.block k hk.2 (fun e => ?_)) (fun k hk => (hgr.block k (by omega) (fun e => ?_))) (fun k hk => ⟨by omega, by omega, fun e => ?_⟩)
      · have := (hub k e.symm).2; omega
      · have := (hub k e.symm).1; omega
      · rcases hfr k e with h9 | h9
        · have := (hub k h9).2; omega
        · omega
  · rw [htk, List.mem_append] at hy
    rcases hy with hy | hy
    · exact h.right y hy
    · have : y = x := by simpa using hy
      rw [this]; exact hr
  · have e9 : left - (cntL (its.take j) : Int) - (cntV d x : Int) = left - ((cntL (its.take j) + cntV d x : Nat) : Int) := by omega
    rw [hgr.block g (by omega) (fun e => hgu e.symm), hbud, hct, e9]
  · refine ⟨hgr.os.trans (hg2.os.trans (hB.os.trans h.gr.os)), hgr.tape.trans (hg2.tape.trans (hB.tape.trans h.gr.tape)), hgr.output.trans (hg2.output.trans (hB.output.trans h.gr.output)), by omega, fun k hk hne => ?_⟩
    exact (keep k (by omega) (fun e => hne (by rw [e])) (fun e => by have := (hub k e).1; omega)).trans (h.gr.block k hk hne)

theorem nodesAt {d : Nat} (ih : NAt d) (its : List (Val d)) (ia : Option Addr) (il ic : Nat) (level left : Int) (g : Nat) (w : World) (h1 : 1 ≤ level) (h7 : level ≤ 7) (hl0 : 0 ≤ left) (hl1 : left ≤ 100) (hgw : g < w.heap.size) (hil9 : its.length = il) (hm : il ≤ maxLen)
    (hic : ∀ j x, its[j]? = some x → ∃ b off cs, ia = some ⟨b, off, none⟩ ∧ b < g ∧ cs.length = 5 ∧ (∀ q, q < 5 → w.cell? ⟨b, off + j * 5 + q, none⟩ = cs[q]?) ∧ RdVL d w g cs x) (hg : w.heap[g]? = some (.cells #[.int .i64 left] 83 (0, 0))) :
    Calls Try.prog 69 #[.slice ia il ic, .int .i64 level, .pointer (some ⟨g, 0, none⟩)] w (NodesP its level left g w) := by
  obtain ⟨i0, hi, hz0, hz1, hz2⟩ := info_parts infoNode
  unfold maxLen at hm
  have HIC : Hid _ := hic
  have HIL : Hid (its.length = il) := hil9
  have HNS : Hid (NS its level left g w 0 (.slice none 0 0) [] w) := by
    show NS its level left g w 0 (.slice none 0 0) [] w
    exact ⟨World.ownsRow_nil _ _ _ _, fun i x v _ hv => by simp at hv, fun x hx => by simp at hx, by simpa [cntL] using hl0, by simpa [cntL] using hg, World.grownBy.refl _ _⟩
  clear hic hil9 hg
  go_enter Try.func69, Try.ntmps69
  go_wp2_with fail
  go_loopw [8, 15] (fun u i wr => ∃ (j : Nat) (us : List Value), j ≤ il ∧ i = .int .i64 (j : Int) ∧ NS its level left g w j u us wr) (fun _ i _ => il - (intOf i).toNat)
  case atStart => exact ⟨0, [], Nat.zero_le _, rfl, HNS.out⟩
  case round =>
    obtain ⟨j, us, hj, rfl, hNS⟩ := hrel
    obtain ⟨uv, huv⟩ : ∃ z, z = u8 := ⟨_, rfl⟩
    subst huv
    obtain ⟨wa, hwa⟩ : ∃ z, z = wr := ⟨_, rfl⟩
    subst hwa
    have HN : Hid (NS its level left g w j uv us wa) := hNS
    clear hNS HNS
    by_cases hlt : j < il
    · have hlt' : (j : Int) < (il : Int) := by omega
      have hj0 : (0 : Int) ≤ (j : Int) := by omega
      have hjl : j < its.length := by have := HIL.out; omega
      obtain ⟨xj, hxj⟩ : ∃ x, its[j] = x := ⟨_, rfl⟩
      have HXJ : Hid (its[j]? = some xj) := by show its[j]? = some xj; rw [← hxj]; simp [hjl]
      obtain ⟨b, off, cs, ha, hbg, hcl, hcell, hrv⟩ := HIC.out j xj HXJ.out
      subst ha
      clear hxj hjl
      obtain ⟨kk, nn, tt, a1, n1, c1, a2, n2, c2, rfl⟩ := hrv.form
      have e0 := HN.out.cell hbg hgw (hcell 0 (by omega))
      have e1 := HN.out.cell hbg hgw (hcell 1 (by omega))
      have e2 := HN.out.cell hbg hgw (hcell 2 (by omega))
      have e3 := HN.out.cell hbg hgw (hcell 3 (by omega))
      have e4 := HN.out.cell hbg hgw (hcell 4 (by omega))
      rw [Nat.add_zero] at e0
      obtain ⟨wb, hwb⟩ : ∃ W, wa.alloc (.cells #[.int .i64 kk, .int .i64 nn, .string tt, .slice a1 n1 c1, .slice a2 n2 c2] 30) = W := ⟨_, rfl⟩
      have bb : Below wa.heap.size wa wb := by rw [← hwb]; go_grown
      have hrd : RdVL d wb g [.int .i64 kk, .int .i64 nn, .string tt, .slice a1 n1 c1, .slice a2 n2 c2] xj := (hrv.grown HN.out.gr (by omega)).below (bb.mono (by have := HN.out.gr.size; omega))
      have hbud := box_step HN.out.bud bb
      have H5 : wb.heap[wa.heap.size]? = some (.cells #[.int .i64 kk, .int .i64 nn, .string tt, .slice a1 n1 c1, .slice a2 n2 c2] 30 (0, 0)) := by rw [← hwb]; exact heap_alloc_new wa _
      obtain ⟨q0, q1, q2, q3, q4⟩ := five_in H5
      have hcn := HN.out.cnt
      have hih := ih xj [.int .i64 kk, .int .i64 nn, .string tt, .slice a1 n1 c1, .slice a2 n2 c2] level (left - cntL (its.take j)) g wb h1 h7 (by omega) (by omega) (by have := HN.out.gr.size; have := bb.size; omega) hrd hbud
      have HBB : Hid (Below wa.heap.size wa wb) := bb
      clear hcell hrv hrd hbud H5 bb
      go_wp2_with fail
      go_at_call 52
      clear hwb e0 e1 e2 e3 e4 q0 q1 q2 q3 q4
      refine hih.mono ?_
      rintro e wc ⟨v, bb, l', rfl, hiff, hbu, hyes, hone, hgr⟩
      have HIFF : Hid (bb = true ↔ RightV d xj (7 - level) ∧ (cntV d xj : Int) ≤ left - cntL (its.take j)) := hiff
      have HBU : Hid _ := hbu
      have HY : Hid (bb = true → l' = left - cntL (its.take j) - cntV d xj ∧ IsN d wc (fun k => wb.heap.size ≤ k ∧ k < wc.heap.size) g v xj) := hyes
      have HONE : Hid (v.oneCell' = true) := hone
      have HGR : Hid (wb.grownBy wc (some g)) := hgr
      clear hih hiff hbu hyes hone hgr
      cases bb with
      | false =>
        have HE : Hid (NodesP its level left g w (.returned (.tuple #[.slice none 0 0, .bool false])) wc) := by
          refine ⟨none, 0, 0, false, l', rfl, ⟨fun e => Bool.noConfusion e, fun ⟨h8, h9⟩ => ?_⟩, HBU.out, fun e => Bool.noConfusion e, ?_⟩
          · have hjl : j < its.length := (List.getElem?_eq_some_iff.1 HXJ.out).1
            have hxj : its[j] = xj := (List.getElem?_eq_some_iff.1 HXJ.out).2
            have h10 := cntL_take its j hjl
            have h11 := cntL_le its (j + 1)
            rw [hxj] at h10
            have h12 := h8 xj (by rw [← hxj]; exact List.getElem_mem hjl)
            exact Bool.noConfusion (HIFF.out.2 ⟨h12, by omega⟩)
          · exact grown_trans (⟨HBB.out.os.trans HN.out.gr.os, HBB.out.tape.trans HN.out.gr.tape, HBB.out.output.trans HN.out.gr.output, Nat.le_trans HN.out.gr.size HBB.out.size, fun k hk hne => (HBB.out.block k (Nat.lt_of_lt_of_le hk HN.out.gr.size)).trans (HN.out.gr.block k hk hne)⟩ : w.grownBy wb (some g)) HGR.out
        clear HIFF HBU HY HONE HGR HBB HN
        go_wp2
        go_ret2
        exact HE.out
      | true =>
        obtain ⟨hr9, hc9⟩ := HIFF.out.1 rfl
        obtain ⟨hl9, hn9⟩ := HY.out rfl
        subst hl9
        obtain ⟨nT, nz, rfl⟩ := hn9.form hr9
        have HR9 : Hid _ := hr9
        have HC9 : Hid ((cntV d xj : Int) ≤ left - cntL (its.take j)) := hc9
        have HN9 : Hid _ := hn9
        have hrow : Hid (wc.ownsRow w.heap.size 54 1 uv j us) := own_same HN.out.row (fun k hk => (HGR.out.block k (by have := (HN.out.row.lt k hk).2; have := HBB.out.size; omega) (fun e => by cases e; have := (HN.out.row.lt g hk).1; omega)).trans (HBB.out.block k (HN.out.row.lt k hk).2))
        have hsz : w.heap.size ≤ (wc.alloc (.cells #[.iface nT nz] 54)).heap.size := by have := HN.out.gr.size; have := HBB.out.size; have := HGR.out.size; simp; omega
        have hc1 : ∀ (q : Nat) (u : Value), [Value.iface nT nz][q]? = some u → (wc.alloc (.cells #[.iface nT nz] 54)).cell? ((⟨wc.heap.size, 0, none⟩ : Addr).add q) = some u := by
          intro q u h
          cases q with
          | zero => simp at h; subst h; simp [Addr.add]
          | succ q => simp at h
        have ho1 : ∀ y ∈ [Value.iface nT nz], y.oneCell' = true := fun y hy => by
          obtain rfl : y = Value.iface nT nz := by simpa using hy
          exact HONE.out
        have hj100 : j ≤ 100 := by
          have h3 := HN.out.right
          have h4 := cntL_len (its.take j) (7 - level) h3
          have h5 := HN.out.cnt
          have h6 : (its.take j).length = j := by rw [List.length_take]; have := HIL.out; omega
          omega
        clear hr9 hc9 hn9 HIFF HY
        go_wp2_with (at_builtin; refine wpList_appendN _ rfl (.tmp 28) (.tmp 30) 84 rfl w.heap.size 54 i0 .nilIface 1 16 Try.underlying84 hi hz0 hz1 hz2 rfl (by decide) _ j us rfl (hrow.out.alloc _) ⟨wc.heap.size, 0, none⟩ 1 1 [.iface nT nz] rfl rfl hc1 ho1 (by decide) (by unfold maxLen; omega) (by omega) hsz ?_; intro v6 w6 own6 grow6 fr6; refine stop_ofN ?_)
        unfold StopN
        have HNX : Hid (NS its level left g w (j + 1) v6 (us ++ [.iface nT nz]) w6) := by
          have h2 : wb.grownBy (wc.alloc (.cells #[.iface nT nz] 54)) (some g) := grown_trans HGR.out ⟨rfl, rfl, rfl, by simp, fun k hk _ => old_block hk⟩
          have hcs := HBU.out
          refine HN.out.more hgw HXJ.out HR9.out HC9.out HBB.out h2 ((old_block (Array.getElem?_eq_some_iff.1 hcs).1).trans hcs) (HN9.out.keep (fun k hk => old_block hk.2) (fun k hk => old_block (by have := HN.out.gr.size; have := HBB.out.size; have := HGR.out.size; omega)) (fun k hk => ⟨hk.1, by simp; omega⟩)) own6 grow6 fr6
        clear own6 grow6 fr6 hrow hc1 ho1
        go_wp2
        go_roundw
        case rel => exact ⟨j + 1, us ++ [.iface nT nz], by omega, by go_num, HNX.out⟩
        case measure => exact meas_stepB hlt
    · obtain rfl : il = j := by omega
      have hnn : ¬ (il : Int) < (il : Int) := by omega
      have hfull : its.take il = its := List.take_of_length_le (by have := HIL.out; omega)
      obtain ⟨ua, um, uc, huu⟩ : ∃ a m c, uv = .slice a m c := by
        rcases HN.out.row.2 with ⟨e, _⟩ | ⟨g9, c9, cur, e, _⟩
        · exact ⟨_, _, _, e⟩
        · exact ⟨_, _, _, e⟩
      subst huu
      have HE : Hid (NodesP its level left g w (.returned (.tuple #[.slice ua um uc, .bool true])) wa) := by
        have hN := HN.out
        have hus : us.length = il := by have := hN.row.1; omega
        have hum : um = il := by
          rcases hN.row.2 with ⟨e, h0⟩ | ⟨g9, c9, cur, e, _⟩
          · injection e with e1 e2 e3; omega
          · injection e with e1 e2 e3
        have hr := hN.right
        have hc := hN.cnt
        have hb := hN.bud
        rw [hfull] at hr hc hb
        refine ⟨ua, um, uc, true, _, rfl, ⟨fun _ => ⟨hr, hc⟩, fun _ => rfl⟩, hb, fun _ => ⟨rfl, by rw [hum, HIL.out], fun j x hx => ?_⟩, hN.gr⟩
        have hjl : j < us.length := by have := (List.getElem?_eq_some_iff.1 hx).1; have := HIL.out; omega
        have hrd := reads_own hN.row
        obtain ⟨ao, cap, e9, hcell⟩ := hrd
        injection e9 with e1 e2 e3
        subst e1
        obtain ⟨b, off, hab, hcb⟩ := hcell j us[j] (by simp [hjl])
        subst hab
        have hlb := hN.row.lt b (by simp [Value.ownBlock])
        exact ⟨b, off, us[j], rfl, hlb, hcb, (hN.each j x us[j] hx (by simp [hjl])).keep (fun _ _ => rfl) (fun _ _ => rfl) (fun k hk => ⟨hk.1, hk.2.1⟩)⟩
      clear HN hfull
      go_wp2
      go_ret2
      exact HE.out

end Go.Proofs.Ytepahapocgmhiaa
