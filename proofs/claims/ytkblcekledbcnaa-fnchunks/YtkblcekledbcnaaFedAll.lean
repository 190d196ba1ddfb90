/-
  FedAll, of the specification and of the program: what they answer.
-/
import Derived.Test.YtkblcekledbcnaaFed
import Derived.Laws.AppendOwnNone
namespace Go.Proofs.Ytkblcekledbcnaa
open Go.RowKit
set_option linter.unusedVariables false
set_option maxHeartbeats 4000000

/-- One chunk behind what was told of those before. -/
def fedStep (S : List ByteArray × ByteArray × Bool) (c : ByteArray) : List ByteArray × ByteArray × Bool :=
  (S.1 ++ (fed S.2.1 S.2.2 c).1, (fed S.2.1 S.2.2 c).2)

def fedAll (cs : List ByteArray) : List ByteArray × ByteArray × Bool := cs.foldl fedStep ([], ⟨#[]⟩, false)

theorem fedAll_snoc (cs : List ByteArray) (k : Nat) (h : k < cs.length) : fedAll (cs.take (k + 1)) = fedStep (fedAll (cs.take k)) cs[k] := by
  rw [fedAll, List.take_succ_eq_append_getElem h, List.foldl_append]
  rfl

theorem fedAll_length (cs : List ByteArray) : (fedAll cs).1.length ≤ cs.length * 1000001 := by
  have key : ∀ (cs : List ByteArray) (S : List ByteArray × ByteArray × Bool), (cs.foldl fedStep S).1.length ≤ S.1.length + cs.length * 1000001 := by
    intro cs
    induction cs with
    | nil => intro S; simp
    | cons c cs ih =>
      intro S
      have h1 := ih (fedStep S c)
      have h2 := fed_length S.2.1 S.2.2 c
      simp only [List.foldl_cons, List.length_cons]
      simp only [fedStep, List.length_append] at h1 ⊢
      omega
  have := key cs ([], ⟨#[]⟩, false)
  simpa [fedAll] using this

/-- The source of an append: nil, or a row. -/
theorem own_shape {w : World} {base : Nat} {e : TypeId} {v : Value} {n : Nat} {xs : List Value} (h : w.ownsRow base e 1 v n xs) :
    (v = .slice none 0 0 ∧ n = 0 ∧ xs = []) ∨ ∃ g cap, v = .slice (some ⟨g, 0, none⟩) n cap ∧ xs.length = n ∧ (∀ j u, xs[j]? = some u → w.cell? ((⟨g, 0, none⟩ : Addr).add j) = some u) := by
  have hl := h.1
  simp only [Nat.mul_one] at hl
  rcases h.2 with ⟨rfl, rfl⟩ | ⟨g, cap, cur, rfl, _⟩
  · exact .inl ⟨rfl, rfl, List.eq_nil_of_length_eq_zero hl⟩
  · exact .inr ⟨g, cap, rfl, hl, h.cells rfl⟩

/-- append(out, l...), out the call's own, l a row of the call's own or nil. -/
theorem wpList_append_rows {P : Program} (w : World) {ops : Array Oper} {rest : List Oper} {o : Oper} {a : Act} {Q : Exit → Act → World → Prop} (hgd : o.guard = none) (s x : Operand) (t : TypeId)
    (ho : o.op = .call { callee := .builtin .append, args := #[s, x], argTypes := #[t, t] })
    (base : Nat) (e : TypeId) (i : TypeInfo) (z : Value) (bytes : Nat) (ht : P.underlying t = some (.slice e)) (hi : P.info? e = some i) (hz : i.zero = some z)
    (hsize : i.size = 1) (hby : i.bytes = bytes) (hzs : z.cells.size = 1)
    (v : Value) (n : Nat) (xs : List Value) (hs : a.eval s = v) (hown : w.ownsRow base e 1 v n xs)
    (u : Value) (base' m : Nat) (ys : List Value) (hx : a.eval x = u) (hsrc : w.ownsRow base' e 1 u m ys) (h1 : ∀ y ∈ ys, y.oneCell' = true)
    (h63 : n + m ≤ maxLen) (hbytes : (n + m) * bytes ≤ 140737488355328) (hbase : base ≤ w.heap.size)
    (h : ∀ v' w', w'.ownsRow base e 1 v' (n + m) (xs ++ ys) → w.grownBy w' v.ownBlock → wpList P ops Q rest (a.put o.dst v') w') : wpList P ops Q (o :: rest) a w := by
  rcases own_shape hsrc with ⟨rfl, rfl, rfl⟩ | ⟨g, cap, rfl, hl, hc⟩
  · exact wpList_append_own_none hgd s x t ho base e i 1 ht hi v n xs hs hown hx (h v w (by simpa using hown) (World.grownBy.refl _ _))
  · exact wpList_append_own w hgd s x t ho base e i z 1 bytes ht hi hz hsize hby hzs (by decide) v n xs hs hown ⟨g, 0, none⟩ m cap ys hx (by simpa using hl) hc h1 h63 hbytes hbase (fun v' w' a1 a2 _ => h v' w' a1 a2)

theorem texts_oneCell (ts : List ByteArray) : ∀ y ∈ ts.map Value.string, y.oneCell' = true := by
  intro y hy
  obtain ⟨t, _, rfl⟩ := List.mem_map.1 hy
  rfl

/-- A block below the base is not the row's own. -/
theorem not_own {w : World} {base : Nat} {e : TypeId} {s : Nat} {v : Value} {n : Nat} {xs : List Value} (h : w.ownsRow base e s v n xs) {k : Nat} (hk : k < base) : some k ≠ v.ownBlock :=
  fun e => by have := (h.lt k e.symm).1; omega

/-- What a round of FedAll leaves: the Reader's variable at block b + 1 stored, the texts appended. -/
theorem fedRound {w wr w1 w3 : World} {t : TypeId} {e : TypeId} {o v3 : Value} {r r' : ByteArray} {b b' : Bool} {ts us : List ByteArray} {R : Obj}
    (hown : wr.ownsRow (w.heap.size + 2) e 1 o ts.length (ts.map .string)) (hr : wr.heap[w.heap.size + 1]? = some (.cells #[.string r, .bool b] t (0, 0))) (hres : wr.heap[w.heap.size]? = some R)
    (hb : Below w.heap.size w wr) (hsize : w.heap.size + 1 < wr.heap.size) (hb1 : Below wr.heap.size wr w1)
    (hown3 : w3.ownsRow (w.heap.size + 2) e 1 v3 (ts.length + us.length) (ts.map .string ++ us.map .string))
    (hgrow3 : ((w1.setCell ⟨w.heap.size + 1, 0, none⟩ (.string r')).setCell ⟨w.heap.size + 1, 1, none⟩ (.bool b')).grownBy w3 o.ownBlock) :
    w3.ownsRow (w.heap.size + 2) e 1 v3 (ts ++ us).length ((ts ++ us).map .string) ∧ w3.heap[w.heap.size + 1]? = some (.cells #[.string r', .bool b'] t (0, 0)) ∧
      w3.heap[w.heap.size]? = some R ∧ Below w.heap.size w w3 ∧ w.heap.size + 1 < w3.heap.size := by
  have hs1 := hb1.size
  have hs2 : ((w1.setCell ⟨w.heap.size + 1, 0, none⟩ (.string r')).setCell ⟨w.heap.size + 1, 1, none⟩ (.bool b')).heap.size = w1.heap.size := by simp
  have hs3 := hgrow3.size
  rw [hs2] at hs3
  refine ⟨by simpa using hown3, ?_, ?_, ?_, by omega⟩
  · rw [hgrow3.block _ (by rw [hs2]; omega) (not_own hown (by omega))]
    exact two_set ((hb1.block _ hsize).trans hr) _ _
  · rw [hgrow3.block _ (by rw [hs2]; omega) (not_own hown (by omega)), Below.heap_setCell _ _ _ _ (by simp), Below.heap_setCell _ _ _ _ (by simp), hb1.block _ (by omega)]
    exact hres
  · exact (((hb.trans (hb1.mono hb.size)).setCell (by simp) _).setCell (by simp) _).grown hgrow3 (by rw [hs2]; omega) (fun k hk => by have := (hown.lt k hk).1; omega)

/-- What is owned stays owned while a cell of another block is written. -/
theorem own_setCell_ne {w : World} {base : Nat} {e : TypeId} {s : Nat} {v : Value} {n : Nat} {xs : List Value} (h : w.ownsRow base e s v n xs) {a : Addr} (ha : ∀ k, v.ownBlock = some k → k ≠ a.block) (u : Value) :
    (w.setCell a u).ownsRow base e s v n xs := by
  refine ⟨h.1, ?_⟩
  rcases h.2 with hn | ⟨g, cap, cur, rfl, hbg, hg, r⟩
  · exact .inl hn
  · exact .inr ⟨g, cap, cur, rfl, hbg, by rw [Below.heap_setCell _ _ _ _ (ha g rfl)]; exact hg, r⟩

theorem implFedAll (cs : List ByteArray) (v : Value) (w : World) (hl : cs.length ≤ 1048576) (hv : Reads w v (cs.map .string)) :
    Calls Try.prog 19 #[v] w fun e w' =>
      ∃ u, e = .returned (.tuple #[.agg #[.string (fedAll cs).2.1, .bool (fedAll cs).2.2], u]) ∧
        w'.ownsRow w.heap.size 9 1 u (fedAll cs).1.length ((fedAll cs).1.map .string) ∧ Below w.heap.size w w' := by
  obtain ⟨i0, hi, hz0, hz1, hz2⟩ := info_parts info_string
  obtain ⟨ao, cap, rfl, hc⟩ := hv
  simp only [List.length_map]
  obtain ⟨A, hA⟩ : ∃ A, fedAll cs = A := ⟨_, rfl⟩
  rw [hA]
  have HA : Hid (fedAll cs = A) := hA
  clear hA
  go_enter Try.func19, Try.ntmps19
  go_wp2
  go_loopw [5, 11] (fun o i wr => ∃ k : Nat, k ≤ cs.length ∧ i = .int .i64 k ∧ wr.ownsRow (w.heap.size + 2) 9 1 o (fedAll (cs.take k)).1.length ((fedAll (cs.take k)).1.map .string) ∧
      wr.heap[w.heap.size + 1]? = some (.cells #[.string (fedAll (cs.take k)).2.1, .bool (fedAll (cs.take k)).2.2] 27 (0, 0)) ∧
      wr.heap[w.heap.size]? = some (.cells #[.string ⟨#[]⟩, .bool false] 27 (0, 0)) ∧ Below w.heap.size w wr ∧ w.heap.size + 1 < wr.heap.size) (fun _ i _ => cs.length - (intOf i).toNat)
  case atStart =>
    obtain ⟨h1, h2, h3, h4⟩ := made_two (w := w) (Below.refl _ ((w.alloc (.cells #[.string ⟨#[]⟩, .bool false] 27)).alloc (.cells #[.string ⟨#[]⟩, .bool false] 27)))
    exact ⟨0, Nat.zero_le _, rfl, World.ownsRow_nil _ _ _ _, h2, h1, h4, h3⟩
  case round =>
    obtain ⟨k, hk, rfl, hown, hr, hres, hb, hsize⟩ := hrel
    have hlen := fedAll_length (cs.take k)
    have hlk : (cs.take k).length ≤ k := List.length_take_le _ _
    have hmul : (cs.take k).length * 1000001 ≤ 1048576 * 1000001 := Nat.mul_le_mul_right _ (by omega)
    by_cases hlt : k < cs.length
    · obtain ⟨g, off, rfl, hg⟩ := hc k (.string cs[k]) (by simp [hlt])
      have hg := (hb.cell (World.block_lt_of_cell? w _ hg)).trans hg
      have hlt' : (k : Int) < (cs.length : Int) := by omega
      have hsn := fedAll_snoc cs k hlt
      have hfl := fed_length (fedAll (cs.take k)).2.1 (fedAll (cs.take k)).2.2 cs[k]
      have hfed := implFed (fedAll (cs.take k)).2.1 (fedAll (cs.take k)).2.2 cs[k]
      rw [fedStep] at hsn
      generalize fedAll (cs.take k) = S at *
      obtain ⟨ts, r, b⟩ := S
      simp only at *
      generalize fed r b cs[k] = F at *
      obtain ⟨us, r', b'⟩ := F
      simp only at *
      have HSN : Hid (fedAll (cs.take (k + 1)) = (ts ++ us, r', b')) := hsn
      obtain ⟨x0, x1, y0, y1⟩ := two_cells hr
      have HR : Hid _ := hr
      have HRES : Hid _ := hres
      clear hsn hc hr hres
      go_wp2_with (first
        | (go_at_call 11; refine (hfed _).mono ?_; rintro e w1 ⟨u, rfl, hown1, hb1⟩; obtain ⟨c0, c1, f0, f1⟩ := two_cells ((hb1.block (w.heap.size + 1) hsize).trans HR.out))
        | (at_builtin; refine wpList_append_rows _ rfl (.tmp 21) (.tmp 22) 30 rfl (w.heap.size + 2) 9 i0 (.string ⟨#[]⟩) 16 Try.underlying30 hi hz0 hz1 hz2 rfl _ _ _ rfl (ownsRow_setCell_below (ownsRow_setCell_below (own_kept hown hb1) (by simp) _) (by simp) _) _ wr.heap.size _ _ rfl (ownsRow_setCell_below (ownsRow_setCell_below hown1 hsize _) hsize _) (texts_oneCell us) (by unfold maxLen; omega) (by omega) (by have := hb1.size; simp; omega) ?_; intro v3 w3 hown3 hgrow3)
        | go_in)
      have R := fedRound hown HR.out HRES.out hb hsize hb1 hown3 hgrow3
      go_roundw
      case rel => exact ⟨k + 1, by omega, by go_num, by rw [HSN.out]; exact R.1, by rw [HSN.out]; exact R.2.1, R.2.2⟩
      case measure => simp [intOf]; omega
    · have hkk : k = cs.length := by omega
      subst hkk
      rw [List.take_length, HA.out] at hown hr
      clear hlen hmul hlk
      obtain ⟨ts, r, b⟩ := A
      simp only at *
      obtain ⟨x0, x1, y0, y1⟩ := two_cells hr
      obtain ⟨c0, c1, f0, f1⟩ := two_cells hres
      have HRES : Hid _ := hres
      clear hr hres
      go_wp2
      obtain ⟨d0, d1, d2⟩ := two_read HRES.out (.string r) (.bool b)
      refine bodyPost_ret (v := .tuple #[.agg #[.string r, .bool b], u5]) (by simp [results, Try.results19, go_sem, d1, d2]) rfl ?_
      have h1 := ownsRow_setCell_below hown (a := ⟨w.heap.size, 0, none⟩) (by simp) (.string r)
      have h2 := ownsRow_setCell_below h1 (a := ⟨w.heap.size, 1, none⟩) (by simp) (.bool b)
      exact ⟨_, rfl, own_mono h2 (by omega), (hb.setCell (by simp) _).setCell (by simp) _⟩

/-- Behind spec.FedAll's call of Fed, in whatever order the statement ran: x lies in block X, the Reader's variable and the result's are as they were, the texts told are owned. -/
def AfterX (w wr Wf : World) (X : Nat) (o u : Value) (ts us : List ByteArray) (r r' : ByteArray) (b b' : Bool) (t e : TypeId) (R : Obj) : Prop :=
  Wf.ownsRow (w.heap.size + 2) e 1 o ts.length (ts.map .string) ∧ Wf.ownsRow wr.heap.size e 1 u us.length (us.map .string) ∧
  Wf.heap[w.heap.size + 1]? = some (.cells #[.string r, .bool b] t (0, 0)) ∧ Wf.heap[w.heap.size]? = some R ∧ Wf.heap[X]? = some (.cells #[.string r', .bool b'] t (0, 0)) ∧
  Below w.heap.size w Wf ∧ w.heap.size + 1 < Wf.heap.size

theorem kindA {w wr w1 : World} {o u : Value} {ts us : List ByteArray} {r r' : ByteArray} {b b' : Bool} {t e : TypeId} {R : Obj}
    (hown : wr.ownsRow (w.heap.size + 2) e 1 o ts.length (ts.map .string)) (hr : wr.heap[w.heap.size + 1]? = some (.cells #[.string r, .bool b] t (0, 0))) (hres : wr.heap[w.heap.size]? = some R)
    (hb : Below w.heap.size w wr) (hsize : w.heap.size + 1 < wr.heap.size) (hb2 : Below wr.heap.size wr w1) (hown1 : w1.ownsRow wr.heap.size e 1 u us.length (us.map .string)) :
    AfterX w wr (w1.alloc (.cells #[.string r', .bool b'] t)) w1.heap.size o u ts us r r' b b' t e R := by
  have h2 := hb2.size
  refine ⟨(own_kept hown hb2).alloc _, hown1.alloc _, ?_, ?_, heap_alloc_new w1 _, (hb.trans (hb2.mono hb.size)).alloc (by omega) _, by simp; omega⟩
  · rw [old_block (by omega), hb2.block _ hsize]; exact hr
  · rw [old_block (by omega), hb2.block _ (by omega)]; exact hres

theorem kindB {w wr w1 : World} {o u : Value} {ts us : List ByteArray} {r r' : ByteArray} {b b' : Bool} {p q : Value} {t e : TypeId} {R : Obj}
    (hown : wr.ownsRow (w.heap.size + 2) e 1 o ts.length (ts.map .string)) (hr : wr.heap[w.heap.size + 1]? = some (.cells #[.string r, .bool b] t (0, 0))) (hres : wr.heap[w.heap.size]? = some R)
    (hb : Below w.heap.size w wr) (hsize : w.heap.size + 1 < wr.heap.size) (hb1 : Below (wr.alloc (.cells #[p, q] t)).drew.heap.size (wr.alloc (.cells #[p, q] t)).drew w1)
    (hown1 : w1.ownsRow (wr.alloc (.cells #[p, q] t)).drew.heap.size e 1 u us.length (us.map .string)) :
    AfterX w wr ((w1.setCell ⟨wr.heap.size, 0, none⟩ (.string r')).setCell ⟨wr.heap.size, 1, none⟩ (.bool b')) wr.heap.size o u ts us r r' b b' t e R := by
  have hs : (wr.alloc (.cells #[p, q] t)).drew.heap.size = wr.heap.size + 1 := by simp
  rw [hs] at hb1 hown1
  have h1 := hb1.size
  rw [hs] at h1
  have hb2 : Below wr.heap.size wr w1 := Below.trans (by go_grown) (hb1.mono (by omega))
  have hX : w1.heap[wr.heap.size]? = some (.cells #[p, q] t (0, 0)) := (hb1.block _ (by omega)).trans (heap_alloc_new wr _)
  have o1 := own_kept hown hb2
  have ne : ∀ k, o.ownBlock = some k → k ≠ wr.heap.size := fun k hk => by have := (hown.lt k hk).2; omega
  refine ⟨own_setCell_ne (own_setCell_ne o1 ne _) ne _, own_mono (ownsRow_setCell_below (ownsRow_setCell_below hown1 (by simp) _) (by simp) _) (by omega), ?_, ?_, two_set hX _ _,
    (((hb.trans (hb2.mono hb.size)).setCell hb.size _).setCell hb.size _), by simp; omega⟩
  · rw [Below.heap_setCell _ _ _ _ (by simp; omega), Below.heap_setCell _ _ _ _ (by simp; omega), hb2.block _ hsize]; exact hr
  · rw [Below.heap_setCell _ _ _ _ (by simp; omega), Below.heap_setCell _ _ _ _ (by simp; omega), hb2.block _ (by omega)]; exact hres

/-- What the round's end leaves. -/
theorem specRound {w wr Wf w3 : World} {X : Nat} {o u v3 : Value} {ts us : List ByteArray} {r r' : ByteArray} {b b' : Bool} {t e : TypeId} {R : Obj} (hA : AfterX w wr Wf X o u ts us r r' b b' t e R)
    (hown3 : w3.ownsRow (w.heap.size + 2) e 1 v3 (ts.length + us.length) (ts.map .string ++ us.map .string))
    (hgrow3 : ((Wf.setCell ⟨w.heap.size + 1, 0, none⟩ (.string r')).setCell ⟨w.heap.size + 1, 1, none⟩ (.bool b')).grownBy w3 o.ownBlock) :
    w3.ownsRow (w.heap.size + 2) e 1 v3 (ts ++ us).length ((ts ++ us).map .string) ∧ w3.heap[w.heap.size + 1]? = some (.cells #[.string r', .bool b'] t (0, 0)) ∧
      w3.heap[w.heap.size]? = some R ∧ Below w.heap.size w w3 ∧ w.heap.size + 1 < w3.heap.size :=
  fedRound hA.1 hA.2.2.1 hA.2.2.2.1 hA.2.2.2.2.2.1 hA.2.2.2.2.2.2 (Below.refl _ _) hown3 hgrow3

set_option maxRecDepth 100000 in
theorem specFedAll (cs : List ByteArray) (v : Value) (w : World) (hl : cs.length ≤ 1048576) (hv : Reads w v (cs.map .string)) :
    Calls Try.prog 20 #[v] w fun e w' =>
      ∃ u, e = .returned (.tuple #[.agg #[.string (fedAll cs).2.1, .bool (fedAll cs).2.2], u]) ∧
        w'.ownsRow w.heap.size 9 1 u (fedAll cs).1.length ((fedAll cs).1.map .string) ∧ Below w.heap.size w w' := by
  obtain ⟨i0, hi, hz0, hz1, hz2⟩ := info_parts info_string
  obtain ⟨ao, cap, rfl, hc⟩ := hv
  simp only [List.length_map]
  obtain ⟨A, hA⟩ : ∃ A, fedAll cs = A := ⟨_, rfl⟩
  rw [hA]
  have HA : Hid (fedAll cs = A) := hA
  clear hA
  go_enter Try.func20, Try.ntmps20
  go_wp2
  go_loopw [5, 6] (fun o i wr => ∃ k : Nat, k ≤ cs.length ∧ i = .int .i64 k ∧ wr.ownsRow (w.heap.size + 2) 9 1 o (fedAll (cs.take k)).1.length ((fedAll (cs.take k)).1.map .string) ∧
      wr.heap[w.heap.size + 1]? = some (.cells #[.string (fedAll (cs.take k)).2.1, .bool (fedAll (cs.take k)).2.2] 27 (0, 0)) ∧
      wr.heap[w.heap.size]? = some (.cells #[.string ⟨#[]⟩, .bool false] 27 (0, 0)) ∧ Below w.heap.size w wr ∧ w.heap.size + 1 < wr.heap.size) (fun _ i _ => cs.length - (intOf i).toNat)
  case atStart =>
    have hb : Below ((w.alloc (.cells #[.string ⟨#[]⟩, .bool false] 27)).alloc (.cells #[.string ⟨#[]⟩, .bool false] 27)).heap.size ((w.alloc (.cells #[.string ⟨#[]⟩, .bool false] 27)).alloc (.cells #[.string ⟨#[]⟩, .bool false] 27)) (((w.alloc (.cells #[.string ⟨#[]⟩, .bool false] 27)).alloc (.cells #[.string ⟨#[]⟩, .bool false] 27)).alloc (.cells #[] 9)) := by go_grown
    obtain ⟨h1, h2, h3, h4⟩ := made_two hb
    have h5 := World.ownsRow_made (e := 9) (size := 1) (base := w.heap.size + 2) ((w.alloc (.cells #[.string ⟨#[]⟩, .bool false] 27)).alloc (.cells #[.string ⟨#[]⟩, .bool false] 27)) #[] 0 (by simp) (by decide) (by simp)
    exact ⟨0, Nat.zero_le _, rfl, by simpa [fedAll] using h5, h2, h1, h4, h3⟩
  case round =>
    obtain ⟨k, hk, rfl, hown, hr, hres, hb, hsize⟩ := hrel
    have hlen := fedAll_length (cs.take k)
    have hlk : (cs.take k).length ≤ k := List.length_take_le _ _
    have hmul : (cs.take k).length * 1000001 ≤ 1048576 * 1000001 := Nat.mul_le_mul_right _ (by omega)
    by_cases hlt : k < cs.length
    · obtain ⟨g, off, rfl, hg⟩ := hc k (.string cs[k]) (by simp [hlt])
      have hg := (hb.cell (World.block_lt_of_cell? w _ hg)).trans hg
      have hlt' : (k : Int) < (cs.length : Int) := by omega
      have hsn := fedAll_snoc cs k hlt
      have hfl := fed_length (fedAll (cs.take k)).2.1 (fedAll (cs.take k)).2.2 cs[k]
      have hfed := specFed (fedAll (cs.take k)).2.1 (fedAll (cs.take k)).2.2 cs[k]
      rw [fedStep] at hsn
      generalize fedAll (cs.take k) = S at *
      obtain ⟨ts, r, b⟩ := S
      simp only at *
      generalize fed r b cs[k] = F at *
      obtain ⟨us, r', b'⟩ := F
      simp only at *
      have HSN : Hid (fedAll (cs.take (k + 1)) = (ts ++ us, r', b')) := hsn
      obtain ⟨x0, x1, y0, y1⟩ := two_cells hr
      have HR : Hid _ := hr
      have HRES : Hid _ := hres
      clear hsn hc hr hres
      go_wp2
      have hgz := World.block_lt_of_cell? _ _ hg
      go_region_with (go_at_call 13; refine (hfed _).mono ?_; rintro e w1 ⟨u, rfl, hown1, hb1⟩; obtain ⟨hc1, hf1⟩ := bcell hb1; have hb2 : Below wr.heap.size wr w1 := Below.trans (by go_grown) (hb1.mono (by simp)); have hzz : w.heap.size + 1 < w1.heap.size := Nat.lt_of_lt_of_le hsize hb2.size)
      all_goals
        clear hc1 hf1 x0 x1 y0 y1 hfed
        generalize hd : Oper.dst _ = x
        obtain rfl : x = some 8 := by rw [← hd]; rfl
        clear hd
        first
        | (have hA := kindB (r' := r') (b' := b') hown HR.out HRES.out hb hsize hb1 hown1
           generalize (w1.setCell ⟨wr.heap.size, 0, none⟩ (.string r')).setCell ⟨wr.heap.size, 1, none⟩ (.bool b') = Wf at hA ⊢
           obtain ⟨X, hX⟩ : ∃ X, wr.heap.size = X := ⟨_, rfl⟩
           rw [hX] at hA ⊢
           clear hX)
        | (have hA := kindA (r' := r') (b' := b') hown HR.out HRES.out hb hsize hb2 (own_mono hown1 (by simp))
           generalize w1.alloc (.cells #[.string r', .bool b'] 27) = Wf at hA ⊢
           generalize w1.heap.size = X at hA ⊢)
        have hA' := hA
        have HA' : Hid _ := hA
        clear hA
        obtain ⟨o1, o2, k1, _, kX, kb, kz⟩ := hA'
        obtain ⟨p0, p1, q0, q1⟩ := two_cells k1
        obtain ⟨x0, x1, y0, y1⟩ := two_cells kX
        have hsz1 : w.heap.size + 1 < wr.heap.size := hsize
        clear k1 kX hb1 hb2 hown1 hown hb hsize hzz
        go_wp2_with (first
          | (at_builtin; refine wpList_append_rows _ rfl (.tmp 27) (.tmp 28) 30 rfl (w.heap.size + 2) 9 i0 (.string ⟨#[]⟩) 16 Try.underlying30 hi hz0 hz1 hz2 rfl _ _ _ rfl (ownsRow_setCell_below (ownsRow_setCell_below o1 (by simp) _) (by simp) _) _ wr.heap.size _ _ rfl (ownsRow_setCell_below (ownsRow_setCell_below o2 hsz1 _) hsz1 _) (texts_oneCell us) (by unfold maxLen; omega) (by omega) (by simp; omega) ?_; intro v3 w3 hown3 hgrow3)
          | go_in)
        have R := specRound HA'.out hown3 hgrow3
        go_roundw
        case rel => exact ⟨k + 1, by omega, by go_num, by rw [HSN.out]; exact R.1, by rw [HSN.out]; exact R.2.1, R.2.2⟩
        case measure => simp [intOf]; omega
    · have hkk : k = cs.length := by omega
      subst hkk
      rw [List.take_length, HA.out] at hown hr
      clear hlen hmul hlk
      obtain ⟨ts, r, b⟩ := A
      simp only at *
      obtain ⟨x0, x1, y0, y1⟩ := two_cells hr
      obtain ⟨c0, c1, f0, f1⟩ := two_cells hres
      have HRES : Hid _ := hres
      clear hr hres
      go_wp2
      obtain ⟨d0, d1, d2⟩ := two_read HRES.out (.string r) (.bool b)
      refine bodyPost_ret (v := .tuple #[.agg #[.string r, .bool b], u5]) (by simp [results, Try.results20, go_sem, d1, d2]) rfl ?_
      have h1 := ownsRow_setCell_below hown (a := ⟨w.heap.size, 0, none⟩) (by simp) (.string r)
      have h2 := ownsRow_setCell_below h1 (a := ⟨w.heap.size, 1, none⟩) (by simp) (.bool b)
      exact ⟨_, rfl, own_mono h2 (by omega), (hb.setCell (by simp) _).setCell (by simp) _⟩

end Go.Proofs.Ytkblcekledbcnaa
