/-
 Put together out of: Numbers, Called, CallsBoth, CallersBoth, FindMore.
-/
import Derived.Test.YtdkdhjhhbkcciaaGreatG00Put
import Derived.Test.YtdkdhjhhbkcciaaGreatG29CallsFn
import Derived.Test.YtdkdhjhhbkcciaaGreatG21PlOwn
namespace Go.Proofs.YtdkdhjhhbkcciaaGreat
open Go.RowKit
set_option linter.unusedVariables false
set_option maxHeartbeats 1000000
end Go.Proofs.YtdkdhjhhbkcciaaGreat
namespace Go.Proofs.YtdkdhjhhbkcciaaGreat
open Go.RowKit
set_option linter.unusedVariables false
set_option maxHeartbeats 1000000
def called (p : List Stm) (i : Int) : Bool := p.any (fun s => decide (s.k = 8) && decide (s.y = i))
end Go.Proofs.YtdkdhjhhbkcciaaGreat
namespace Go.Proofs.YtdkdhjhhbkcciaaGreat
open Go.RowKit
set_option linter.unusedVariables false
set_option maxHeartbeats 1000000
abbrev b4 (p : List Stm) : Array Value := #[.bool (called p 0), .bool (called p 1), .bool (called p 2), .bool (called p 3)]
def callsAns (ps : List (List Stm)) (i : Int) : List Int := if hasB ps i then callsOf (ps.getD i.toNat []) else []
theorem hasB_true {ps : List (List Stm)} {i : Int} (h : hasB ps i = true) : programOk ps = true ∧ ∃ (j : Nat) (hj : j < ps.length), i = (j : Int) ∧ ps.getD i.toNat [] = ps[j] ∧ ps[j].length ≤ 12 ∧ ∀ s ∈ ps[j], stmtOk s.k s.x s.y = true := by
 unfold hasB wiB at h
 simp only [Bool.and_eq_true, decide_eq_true_eq] at h
 obtain ⟨h1, h2, h3⟩ := h
 have hj : i.toNat < ps.length := by omega
 obtain ⟨_, _, hpr⟩ := programOk_len h1
 have hm := hpr ps[i.toNat] (List.getElem_mem hj)
 exact ⟨h1, i.toNat, hj, by omega, by simp [List.getD, hj], procOk_len hm.1, fun s hs => procOk_stm hm.1 hs⟩
theorem callsAns_length (ps : List (List Stm)) (i : Int) : (callsAns ps i).length ≤ 12 := by
 unfold callsAns
 cases hok : hasB ps i
 · simp
 · rw [if_pos rfl]
   obtain ⟨_, j, hj, rfl, hg, h12, _⟩ := hasB_true hok
   rw [hg]
   have := callsOf_length ps[j]
   omega
theorem specCalls (ps : List (List Stm)) (i : Int) (v : Value) (w : World) (hl : ps.length ≤ maxLen) (hp : ∀ p ∈ ps, p.length ≤ maxLen) (hv : ReadsP w v ps) :
 Calls Tryz.prog 19 #[.agg #[v], .int .i64 i] w fun e w' => ∃ u, e = .returned u ∧ w'.ownsRow w.heap.size 2 1 u (callsAns ps i).length (ints (callsAns ps i)) ∧ Below w.heap.size w w' := by
 have hb0 : Below w.heap.size w (w.alloc (.cells #[v] 26)) := by go_grown
 have he := l3In ps i v _ hl hp (readsP_below hv hb0)
 have H0 := heap_alloc_new w (.cells #[v] 26)
 have s0 : (w.alloc (.cells #[v] 26)).heap.size = w.heap.size + 1 := by simp
 unfold callsAns
 cases hok : hasB ps i
 · rw [hok] at he
   go_enter Tryz.func19, Tryz.ntmps19
   go_wp2_with (go_at_call 44; refine he.mono ?_; rintro e w2 ⟨rfl, b2⟩)
   go_ret
   have L2 := hb0.trans (b2.mono hb0.size)
   exact ⟨_, rfl, by simpa [ints] using own_mono (made0 w2) L2.size, L2.alloc L2.size _⟩
 · rw [hok] at he
   rw [if_pos rfl]
   obtain ⟨_, j, hj, rfl, hg, h12, hst⟩ := hasB_true hok
   rw [hg]
   clear hok
   go_enter Tryz.func19, Tryz.ntmps19
   go_wp2_with fail
   go_at_call 44
   refine he.mono ?_
   rintro e w2 ⟨rfl, b2⟩
   obtain ⟨c2, f2⟩ := one_cell ((b2.block w.heap.size (by omega)).trans H0)
   have L2 := hb0.trans (b2.mono hb0.size)
   have h3 := l3Calls ps j v w2 hj hl h12 (readsP_below hv L2)
   clear he
   go_wp2_with fail
   go_at_call 45
   refine h3.mono ?_
   rintro e w3 ⟨g, cap, rfl, own3, b3⟩
   go_wp2
   go_ret
   exact ⟨_, rfl, own_mono own3 L2.size, L2.trans (b3.mono L2.size)⟩
end Go.Proofs.YtdkdhjhhbkcciaaGreat
namespace Go.Proofs.YtdkdhjhhbkcciaaGreat
open Go.RowKit
set_option linter.unusedVariables false
set_option maxHeartbeats 1000000
theorem ins_any (n i : Int) : ∀ xs : List Int, (ins n xs).any (fun x => decide (x = i)) = (decide (n = i) || xs.any (fun x => decide (x = i)))
 | [] => by simp [ins]
 | x :: xs => by
  unfold ins
  split
  · rw [List.any_cons, ins_any n i xs, List.any_cons]
    cases decide (x = i) <;> cases decide (n = i) <;> simp
  · split
    · rename_i h
      subst h
      simp
    · simp
theorem callsOf_any (p : List Stm) (i : Int) : (callsOf p).any (fun x => decide (x = i)) = called p i := by
 have key : ∀ (p : List Stm) (acc : List Int), (p.foldl putCall acc).any (fun x => decide (x = i)) = (acc.any (fun x => decide (x = i)) || called p i) := by
  intro p
  induction p with
  | nil => intro acc; simp [called]
  | cons s p ih =>
   intro acc
   rw [List.foldl_cons, ih, putCall]
   by_cases h8 : s.k = 8
   · rw [if_pos h8, ins_any]
     simp only [called, List.any_cons, h8, decide_true, Bool.true_and]
     cases decide (s.y = i) <;> simp
   · rw [if_neg h8]
     simp [called, h8]
 have := key p []
 simpa [callsOf] using this
end Go.Proofs.YtdkdhjhhbkcciaaGreat
namespace Go.Proofs.YtdkdhjhhbkcciaaGreat
open Go.RowKit
open Go.WideElems (rg)
set_option linter.unusedVariables false
set_option linter.unusedSimpArgs false
set_option maxHeartbeats 1000000
set_option maxRecDepth 20000
def mapN (w : World) (B : Nat) : Nat := match w.heap[B]? with | some (.map es _) => es.size | _ => 0
def entsOf (w : World) (G : Nat) : List Int := (List.range 4).map fun i => intOf ((w.cell? ⟨G, 337 + i, none⟩).getD undef)
theorem FB.ents {w : World} {G : Nat} {v : Value} {gs : List (List Int)} {E : List Int} {A W : Nat} (h : FB w G v gs E A W) (hr : Rows7 48 gs) (hE : E.length = 4) : entsOf w G = E := by
 refine List.ext_getElem (by simp [entsOf, hE]) (fun i h1 h2 => ?_)
 have hi : i < 4 := by omega
 simp [entsOf, h.ent hr hE hi, intOf, List.getD, hE, hi]
theorem MapAt.count {w : World} {B n : Nat} {f : Int → Int → Option Int} (h : MapAt w B n f) : (∀ ty, (Builtin.len_ #[61] ty #[.map (some B)]).run Tryz.prog w = .ok (.int .i64 (mapN w B : Int)) w) ∧ (mapN w B = 0 → ∀ i k, Wf i → Wf k → f i k = none) ∧ ((∀ i k, Wf i → Wf k → f i k = none) → mapN w B = 0) := by
 obtain ⟨m, h1, _, h2, h3⟩ := h.len
 have e : mapN w B = m := by
  obtain ⟨D, ⟨es, clock, hb, F, hs, rfl⟩, hR⟩ := h
  have a := h1 0
  have b := World.ownsMap.len (H := Unit) (ty := 0) ⟨es, clock, hb, F, hs, rfl⟩ Tryz.underlying61
  rw [a] at b
  have c := Maps.size_eq ((es.toList.map (rg Tryz.prog 48 (plainElem (H := Unit) Tryz.prog 2))).foldr DataW.insert [])
  rw [length_sorted] at c
  simp at b
  unfold mapN
  rw [hb]
  have : (m : Int) = (Maps.size (DataW.map ((es.toList.map (rg Tryz.prog 48 (plainElem (H := Unit) Tryz.prog 2))).foldr DataW.insert [])) : Nat) := b
  rw [c] at this
  simp at this
  simp only
  omega
 rw [e]
 refine ⟨h1, h2, fun hn => Classical.byContradiction fun h0 => ?_⟩
 obtain ⟨i, k, hi, hk, hs⟩ := h3 h0
 rw [hn i k hi hk] at hs
 cases hs
def Ent4 (w : World) (B : Nat) (L : List Int) : Prop := w.heap[B]? = some (.cells (ints L).toArray 59 (0, 0))
theorem Ent4.lt {w : World} {B : Nat} {L : List Int} (h : Ent4 w B L) : B < w.heap.size := (Array.getElem?_eq_some_iff.1 h).1
theorem Ent4.same {w w' : World} {B : Nat} {L : List Int} (h : Ent4 w B L) (hb : w'.heap[B]? = w.heap[B]?) : Ent4 w' B L := hb.trans h
theorem Ent4.below {w w' : World} {B : Nat} {L : List Int} (h : Ent4 w B L) (hb : Below w.heap.size w w') : Ent4 w' B L := h.same (hb.block B h.lt)
theorem Ent4.cell {w : World} {B : Nat} {L : List Int} (h : Ent4 w B L) {j : Nat} (hj : j < L.length) : w.cell? ⟨B, j, none⟩ = some (.int .i64 (L.getD j 0)) := by
 rw [cell_of_row w B j _ _ (0, 0) h]
 simp [ints, List.getD, hj]
theorem Ent4.frozen {w : World} {B : Nat} {L : List Int} (h : Ent4 w B L) (j : Nat) : w.frozen? ⟨B, j, none⟩ = false := by
 unfold World.frozen?
 rw [show w.heap[(⟨B, j, none⟩ : Addr).block]? = _ from h]
 simp
theorem Ent4.set {w : World} {B : Nat} {L : List Int} (h : Ent4 w B L) (j : Nat) (x : Int) : Ent4 (w.setCell ⟨B, j, none⟩ (.int .i64 x)) B (L.set j x) := by
 have := heap_setCell_same w B j _ _ (.int .i64 x) h
 show (w.setCell ⟨B, j, none⟩ (.int .i64 x)).heap[B]? = _
 rw [this]
 simp [ints, List.map_set]
theorem wpList_nextM {ops : Array Oper} {rest : List Oper} {d : Option Tmp} {x : Operand} {ty : TypeId} {pos : String} {af : Array Edge} {a : Act} {w : World} {Q : Exit → Act → World → Prop}
 (B r n : Nat) (f : Int → Int → Option Int) (lf : Int → Int → Bool) (cnt : Nat) (hx : a.eval x = .pointer (some ⟨r, 0, none⟩)) (h : RanM w B r n f lf cnt)
 (hDone : (∀ i k, Wf i → Wf k → lf i k = false) → wpList Tryz.prog ops Q rest (a.put d (.tuple #[.bool false])) w)
 (hMore : ∀ (i k x : Int) (w' : World) (cnt' : Nat), Wf i → Wf k → Wf x → lf i k = true → f i k = some x → RanM w' B r n f (fun i' k' => lf i' k' && !decide (i' = i ∧ k' = k)) cnt' → cnt' < cnt → w.grownBy w' (some r) → w'.heap.size = w.heap.size → (Instr.entry (.pointer (some ⟨r, 0, none⟩))).run Tryz.prog w' = .ok (.tuple #[.agg #[.int .i64 i, .int .i64 k], .int .i64 x]) w' →
  wpList Tryz.prog ops Q rest (a.put d (.tuple #[.bool true, .agg #[.int .i64 i, .int .i64 k], .int .i64 x])) w') :
 wpList Tryz.prog ops Q ({ dst := d, op := .next x false, type := ty, pos := pos, after := af, guard := none } :: rest) a w := by
 refine wpList_plain rfl fun K' hK' => ?_
 unfold Oper.wp
 rcases h.next ty with ⟨h0, hrun⟩ | ⟨i, k, y, w', cnt', hi, hk, hy, hl, hf, hrun, hrg, hlt, hgr, hsz, hen⟩
 · simp [execOp, hx, hrun, Result.andThen]
   exact hK' _ _ (hDone h0)
 · unfold plV at hrun hen
   simp [execOp, hx, hrun, Result.andThen]
   exact hK' _ _ (hMore i k y w' cnt' hi hk hy hl hf hrg hlt hgr hsz hen)
end Go.Proofs.YtdkdhjhhbkcciaaGreat
