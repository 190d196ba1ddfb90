/-
  Taking Frames off a text: spec.l2Fed and impl.framesOff answer one thing.
-/
import Derived.Test.YtnfgdaejfeiabaaBase
import Derived.Test.YtnfgdaejfeiabaaClone
import Derived.Laws.BitsAllLaws
namespace Go.Proofs.Ytnfgdaejfeiabaa
open Go.RowKit
set_option linter.unusedVariables false
set_option maxHeartbeats 4000000

theorem or_bytes (a b : Nat) (ha : a < 256) (hb : b < 256) : bits .or .i64 ((a : Int) * 256) (b : Int) = (a : Int) * 256 + (b : Int) := by
  have e := Nat.two_pow_add_eq_or_of_lt (i := 8) (b := b) (by omega) a
  have h1 : (BitVec.ofInt 64 ((a * 256 : Nat) : Int)).toNat = a * 256 := by
    rw [BitVec.ofInt_natCast, BitVec.toNat_ofNat]; exact Nat.mod_eq_of_lt (by omega)
  have h2 : (BitVec.ofInt 64 (b : Int)).toNat = b := by
    rw [BitVec.ofInt_natCast, BitVec.toNat_ofNat]; exact Nat.mod_eq_of_lt (by omega)
  have h3 : (a * 256 ||| b) = a * 256 + b := by rw [Nat.mul_comm a 256, show (256 : Nat) = 2 ^ 8 from rfl, ← e]
  show IntKind.i64.wrap ((BitVec.ofInt 64 ((a : Int) * 256) ||| BitVec.ofInt 64 (b : Int)).toNat : Int) = _
  have h4 : ((a : Int) * 256) = ((a * 256 : Nat) : Int) := by omega
  rw [BitVec.toNat_or, h4, h1, h2, h3]
  simp [IntKind.wrap, IntKind.bits, IntKind.signed]
  omega

/-- What the two bytes ahead tell. -/
def told (s : ByteArray) : Nat := (s.data.toList.getD 0 0).toNat * 256 + (s.data.toList.getD 1 0).toNat

theorem told_eq (s : ByteArray) (h : 2 ≤ s.size) : told s = s[0].toNat * 256 + s[1].toNat := by
  have e0 : s.data.toList.getD 0 0 = s[0] := by rw [List.getD_eq_getElem?_getD, List.getElem?_eq_getElem (by simpa using (by omega : 0 < s.size))]; rfl
  have e1 : s.data.toList.getD 1 0 = s[1] := by rw [List.getD_eq_getElem?_getD, List.getElem?_eq_getElem (by simpa using (by omega : 1 < s.size))]; rfl
  rw [told, e0, e1]

theorem toldAhead (s : ByteArray) (h : 2 ≤ s.size) (w : World) :
    Calls Try.prog 23 #[.string s] w fun e w' => e = .returned (.int .i64 (told s)) ∧ Below w.heap.size w w' := by
  have h0 : 0 < s.size := by omega
  have h1 : 1 < s.size := by omega
  have h1i : (1 : Int) < (s.size : Int) := by omega
  have h0i : (0 : Int) < (s.size : Int) := by omega
  have hq0 := UInt8.toNat_lt s[0]
  have hq1 := UInt8.toNat_lt s[1]
  have ht := told_eq s h
  generalize told s = t at ht ⊢
  have HT : Hid (t = s[0].toNat * 256 + s[1].toNat) := ht
  clear ht
  go_enter Try.func23, Try.ntmps23
  go_wp2
  go_quiet (fail)
  go_wp2
  go_ret
  refine ⟨ret_int ?_, below_drewN (Below.refl _ _) _⟩
  rw [or_bytes _ _ (by omega) (by omega), HT.out]
  omega

/-- The texts of the Frames with which s begins, what is left, and whether it is bad (n rounds). -/
def offs : Nat → ByteArray → List ByteArray × ByteArray × Bool
  | 0, s => ([], s, false)
  | n + 1, s =>
    if s.size < 2 then ([], s, false)
    else if 2000 < told s then ([], ⟨#[]⟩, true)
    else if s.size < 2 + told s then ([], s, false)
    else (s.extract 2 (2 + told s) :: (offs n (s.extract (2 + told s) s.size)).1, (offs n (s.extract (2 + told s) s.size)).2)

theorem info_string : (Try.prog.info? 9).map (fun i => (i.zero, i.size, i.bytes)) = some (some (.string ⟨#[]⟩), 1, 16) := by kernel_rfl

theorem offs_short (n : Nat) (s : ByteArray) (h : s.size < 2) : offs (n + 1) s = ([], s, false) := by rw [offs, if_pos h]
theorem offs_bad (n : Nat) (s : ByteArray) (h : ¬ s.size < 2) (h2 : 2000 < told s) : offs (n + 1) s = ([], ⟨#[]⟩, true) := by rw [offs, if_neg h, if_pos h2]
theorem offs_wait (n : Nat) (s : ByteArray) (h : ¬ s.size < 2) (h2 : ¬ 2000 < told s) (h3 : s.size < 2 + told s) : offs (n + 1) s = ([], s, false) := by rw [offs, if_neg h, if_neg h2, if_pos h3]
theorem offs_one (n : Nat) (s : ByteArray) (h : ¬ s.size < 2) (h2 : ¬ 2000 < told s) (h3 : ¬ s.size < 2 + told s) :
    offs (n + 1) s = (s.extract 2 (2 + told s) :: (offs n (s.extract (2 + told s) s.size)).1, (offs n (s.extract (2 + told s) s.size)).2) := by rw [offs, if_neg h, if_neg h2, if_neg h3]

/-- What the loop has done: the texts ts taken off s, and left what is left. -/
def Done (s : ByteArray) (ts : List ByteArray) (left : ByteArray) : Prop :=
  ∃ n, left.size < n ∧ ts.length * 2 + left.size ≤ s.size ∧ offs 1000001 s = (ts ++ (offs n left).1, (offs n left).2)

theorem Done.start (s : ByteArray) (hs : s.size ≤ 1000000) : Done s [] s := ⟨1000001, by omega, by simp, by simp⟩

theorem Done.one {s : ByteArray} {ts : List ByteArray} {left : ByteArray} (h : Done s ts left) (h1 : ¬ left.size < 2) (h2 : ¬ 2000 < told left) (h3 : ¬ left.size < 2 + told left) :
    Done s (ts ++ [left.extract 2 (2 + told left)]) (left.extract (2 + told left) left.size) := by
  obtain ⟨n, hn, hl, he⟩ := h
  obtain ⟨m, rfl⟩ : ∃ m, n = m + 1 := ⟨n - 1, by omega⟩
  have hz : (left.extract (2 + told left) left.size).size = left.size - (2 + told left) := by simp
  refine ⟨m, by rw [hz]; omega, by rw [hz]; simp; omega, ?_⟩
  rw [he, offs_one m left h1 h2 h3]
  simp

theorem Done.length {s : ByteArray} {ts : List ByteArray} {left : ByteArray} (h : Done s ts left) : ts.length * 2 + left.size ≤ s.size := by
  obtain ⟨n, _, h, _⟩ := h
  exact h

theorem Done.short {s : ByteArray} {ts : List ByteArray} {left : ByteArray} (h : Done s ts left) (h1 : left.size < 2) : offs 1000001 s = (ts, left, false) := by
  obtain ⟨n, hn, _, he⟩ := h
  obtain ⟨m, rfl⟩ : ∃ m, n = m + 1 := ⟨n - 1, by omega⟩
  rw [he, offs_short m left h1]
  simp
theorem Done.bad {s : ByteArray} {ts : List ByteArray} {left : ByteArray} (h : Done s ts left) (h1 : ¬ left.size < 2) (h2 : 2000 < told left) : offs 1000001 s = (ts, ⟨#[]⟩, true) := by
  obtain ⟨n, hn, _, he⟩ := h
  obtain ⟨m, rfl⟩ : ∃ m, n = m + 1 := ⟨n - 1, by omega⟩
  rw [he, offs_bad m left h1 h2]
  simp
theorem Done.wait {s : ByteArray} {ts : List ByteArray} {left : ByteArray} (h : Done s ts left) (h1 : ¬ left.size < 2) (h2 : ¬ 2000 < told left) (h3 : left.size < 2 + told left) : offs 1000001 s = (ts, left, false) := by
  obtain ⟨n, hn, _, he⟩ := h
  obtain ⟨m, rfl⟩ : ∃ m, n = m + 1 := ⟨n - 1, by omega⟩
  rw [he, offs_wait m left h1 h2 h3]
  simp

/-- The result's variable as it lies ahead of the return. -/
theorem two_cells {w : World} {b : Nat} {x y : Value} {t : TypeId} (h : w.heap[b]? = some (.cells #[x, y] t (0, 0))) :
    w.cell? ⟨b, 0, none⟩ = some x ∧ w.cell? ⟨b, 1, none⟩ = some y ∧ w.frozen? ⟨b, 0, none⟩ = false ∧ w.frozen? ⟨b, 1, none⟩ = false := by
  refine ⟨?_, ?_, ?_, ?_⟩ <;> simp [World.cell?, World.frozen?, h]

theorem two_set {w : World} {b : Nat} {p q : Value} {t : TypeId} (h : w.heap[b]? = some (.cells #[p, q] t (0, 0))) (x y : Value) :
    ((w.setCell ⟨b, 0, none⟩ x).setCell ⟨b, 1, none⟩ y).heap[b]? = some (.cells #[x, y] t (0, 0)) := by
  have h1 := heap_setCell_same w b 0 _ t x h
  have h2 := heap_setCell_same _ b 1 _ t y h1
  simpa using h2

theorem two_read {w : World} {b : Nat} {p q : Value} {t : TypeId} (h : w.heap[b]? = some (.cells #[p, q] t (0, 0))) (x y : Value) :
    (w.setCell ⟨b, 0, none⟩ x).cell? ⟨b, 0, none⟩ = some x ∧ ((w.setCell ⟨b, 0, none⟩ x).setCell ⟨b, 1, none⟩ y).cell? ⟨b, 0, none⟩ = some x ∧
      ((w.setCell ⟨b, 0, none⟩ x).setCell ⟨b, 1, none⟩ y).cell? ⟨b, 1, none⟩ = some y := by
  have h1 := heap_setCell_same w b 0 _ t x h
  have h2 := two_set h x y
  refine ⟨?_, (two_cells h2).1, (two_cells h2).2.1⟩
  simp [World.cell?, h1]

theorem slice_mid (s : ByteArray) (T : Nat) (h : 2 + T ≤ s.size) (w : World) :
    (Instr.slice 9 (.string s) (some (.int .i64 2)) (some (.int .i64 (2 + (T : Int)))) none).run Try.prog w = .ok (.string (s.extract 2 (2 + T))) w := by
  have := run_slice_string (P := Try.prog) w 9 s .i64 .i64 2 (2 + (T : Int)) Try.underlying9 (by omega) (by omega) (by omega)
  rw [this]
  congr 3

theorem slice_end (s : ByteArray) (T : Nat) (h : 2 + T ≤ s.size) (w : World) :
    (Instr.slice 9 (.string s) (some (.int .i64 (2 + (T : Int)))) none none).run Try.prog w = .ok (.string (s.extract (2 + T) s.size)) w := by
  have := run_slice_string_l (P := Try.prog) w 9 s Try.underlying9 .i64 (2 + (T : Int)) (by omega) (by omega)
  rw [this]
  congr 3

/-- A text appended: what was owned is owned, one more; what lies below stays. -/
theorem appended {B : Nat} {e : TypeId} {v v' : Value} {ts : List ByteArray} {t : ByteArray} {wr w1 : World} {x : Obj} {n : Nat}
    (hown : wr.ownsRow B e 1 v ts.length (ts.map .string)) (hB : B ≤ wr.heap.size) (hown' : w1.ownsRow B e 1 v' (ts.length + 1) (ts.map .string ++ [.string t]))
    (hgrow : ((wr.drewN n).alloc x).grownBy w1 v.ownBlock) :
    w1.ownsRow B e 1 v' (ts ++ [t]).length ((ts ++ [t]).map .string) ∧ Below B wr w1 := by
  refine ⟨by simpa using hown', ?_⟩
  have h1 : Below B wr ((wr.drewN n).alloc x) := Below.alloc (below_drewN (Below.refl _ _) n) hB x
  refine h1.grown hgrow (Nat.le_trans hB ?_) (fun k hk => (hown.lt k hk).1)
  show wr.heap.size ≤ (wr.heap.push x).size
  simp

theorem l2Fed (r c : ByteArray) (hs : r.size + c.size ≤ 1000000) (w : World) :
    Calls Try.prog 20 #[.agg #[.string r, .bool false], .string c] w fun e w' =>
      ∃ v, e = .returned (.tuple #[.agg #[.string (offs 1000001 (r ++ c)).2.1, .bool (offs 1000001 (r ++ c)).2.2], v]) ∧
        w'.ownsRow w.heap.size 9 1 v (offs 1000001 (r ++ c)).1.length ((offs 1000001 (r ++ c)).1.map .string) ∧ Below w.heap.size w w' := by
  obtain ⟨i0, hi, hz0, hz1, hz2⟩ := info_parts info_string
  have hsz : (r ++ c).size ≤ 1000000 := by rw [ByteArray.size_append]; exact hs
  obtain ⟨s, hE⟩ : ∃ s, r ++ c = s := ⟨_, rfl⟩
  rw [hE] at hsz ⊢
  obtain ⟨R, hR⟩ : ∃ R, offs 1000001 s = R := ⟨_, rfl⟩
  rw [hR]
  have HR : Hid (offs 1000001 s = R) := hR
  clear hR
  go_enter Try.func20, Try.ntmps20
  go_wp2
  go_loopw [6, 7] (fun o q wr => ∃ (ts : List ByteArray) (left : ByteArray), q = .string left ∧ Done s ts left ∧ wr.ownsRow (w.heap.size + 2) 9 1 o ts.length (ts.map .string) ∧
      wr.heap[w.heap.size + 1]? = some (.cells #[.string ⟨#[]⟩, .bool false] 27 (0, 0)) ∧ Below w.heap.size w wr ∧ w.heap.size + 2 ≤ wr.heap.size) (fun _ q _ => match q with | .string x => x.size | _ => 0)
  case atStart => 
    refine ⟨[], s, rfl, Done.start s hsz, ?_, ?_, by go_grown, by simp⟩
    · have := World.ownsRow_made (e := 9) (size := 1) (base := w.heap.size + 2) ((w.alloc (Obj.cells #[Value.string r, Value.bool false] 27)).alloc (Obj.cells #[Value.string { data := #[] }, Value.bool false] 27)) #[] 0 (by simp) (by decide) (by simp)
      simpa using this
    · rw [heap_alloc_old (h := by simp)]
      have := heap_alloc_new (w.alloc (Obj.cells #[Value.string r, Value.bool false] 27)) (Obj.cells #[Value.string { data := #[] }, Value.bool false] 27)
      simpa using this
  case round =>
    obtain ⟨ts, left, rfl, hd, hown, hres, hb, hsize⟩ := hrel
    obtain ⟨c0, c1, f0, f1⟩ := two_cells hres
    have HRES : Hid (wr.heap[w.heap.size + 1]? = some (.cells #[.string ⟨#[]⟩, .bool false] 27 (0, 0))) := hres
    clear hres
    have hlen := hd.length
    by_cases h1 : left.size < 2
    · have HD : Hid (R = (ts, left, false)) := HR.out.symm.trans (hd.short h1)
      go_wp2
      obtain ⟨d0, d1, d2⟩ := two_read HRES.out (.string left) (.bool false)
      refine bodyPost_ret (v := .tuple #[.agg #[.string left, .bool false], u6]) (by simp [results, Try.results20, go_sem, d1, d2]) rfl ?_
      rw [HD.out]
      exact ⟨_, rfl, own_mono (ownsRow_setCell_below (ownsRow_setCell_below hown (by simp) _) (by simp) _) (by omega), (hb.setCell (by simp) _).setCell (by simp) _⟩
    · have hq0 := UInt8.toNat_lt left[0]
      have hq1 := UInt8.toNat_lt left[1]
      have h0n : 0 < left.size := by omega
      have h1n : 1 < left.size := by omega
      have h1i : (1 : Int) < (left.size : Int) := by omega
      have h0i : (0 : Int) < (left.size : Int) := by omega
      have ht := told_eq left (by omega)
      have hone := hd.one h1
      have hbad := hd.bad h1
      have hwait := hd.wait h1
      generalize told left = T at ht hone hbad hwait
      have hT : (left[0].toNat : Int) * 256 + (left[1].toNat : Int) = (T : Int) := by omega
      clear ht
      by_cases h2 : 2000 < T
      · have HD : Hid (R = (ts, ⟨#[]⟩, true)) := HR.out.symm.trans (hbad h2)
        have h2' : (2000 : Int) < (T : Int) := by omega
        clear hone hbad hwait
        go_wp2
        go_quiet (fail)
        go_wp2
        obtain ⟨d0, d1, d2⟩ := two_read (w := wr.drewN nq) HRES.out (.string ⟨#[]⟩) (.bool true)
        refine bodyPost_ret (v := .tuple #[.agg #[.string ⟨#[]⟩, .bool true], u6]) (by simp [results, Try.results20, go_sem, d1, d2]) rfl ?_
        rw [HD.out]
        exact ⟨_, rfl, own_mono (ownsRow_setCell_below (ownsRow_setCell_below (w := wr.drewN nq) hown (by simp) _) (by simp) _) (by omega), ((below_drewN hb nq).setCell (by simp) _).setCell (by simp) _⟩
      · have h2' : ¬ (2000 : Int) < (T : Int) := by omega
        by_cases h3 : left.size < 2 + T
        · have HD : Hid (R = (ts, left, false)) := HR.out.symm.trans (hwait h2 h3)
          have h3' : (left.size : Int) < 2 + (T : Int) := by omega
          clear hone hbad hwait
          go_wp2
          go_quiet (fail)
          go_wp2
          obtain ⟨d0, d1, d2⟩ := two_read (w := wr.drewN nq) HRES.out (.string left) (.bool false)
          refine bodyPost_ret (v := .tuple #[.agg #[.string left, .bool false], u6]) (by simp [results, Try.results20, go_sem, d1, d2]) rfl ?_
          rw [HD.out]
          exact ⟨_, rfl, own_mono (ownsRow_setCell_below (ownsRow_setCell_below (w := wr.drewN nq) hown (by simp) _) (by simp) _) (by omega), ((below_drewN hb nq).setCell (by simp) _).setCell (by simp) _⟩
        · have h3' : ¬ (left.size : Int) < 2 + (T : Int) := by omega
          have hdone := hone h2 h3
          have HDN : Hid (Done s (ts ++ [left.extract 2 (2 + T)]) (left.extract (2 + T) left.size)) := hdone
          clear hone hbad hwait hdone
          have hsl := slice_mid left T (by omega)
          have hsl2 := slice_end left T (by omega)
          go_wp2
          go_quiet (fail)
          have hT2 : ∀ c : Int, c = 256 → (left[0].toNat : Int) * c + (left[1].toNat : Int) = (T : Int) := by intro c hc; subst hc; exact hT
          simp (disch := rfl) only [hT2]
          go_wp2_with (first
            | (at_builtin; refine wpList_append_own _ rfl (.tmp 44) (.tmp 49) 30 rfl (w.heap.size + 2) 9 i0 (.string ⟨#[]⟩) 1 16 Try.underlying30 hi hz0 hz1 hz2 rfl (by decide) _ _ _ rfl (World.ownsRow.alloc (w := wr.drewN nq) hown _) ⟨wr.heap.size, 0, none⟩ 1 1 [.string (left.extract 2 (2 + T))] rfl rfl ?c1 ?c2 ?c3 ?c4 ?c5 ?_)
            | go_in)
          case c1 =>
            intro j u hj
            match j, hj with
            | 0, hj =>
              simp at hj
              subst hj
              have := World.cell?_alloc_new (wr.drewN nq) #[Value.string (left.extract 2 (2 + T))] 9 0
              simpa [Addr.add] using this
          case c2 => intro u hu; simp at hu; subst hu; rfl
          case c3 => unfold maxLen; omega
          case c4 => omega
          case c5 => show _ ≤ (wr.heap.push _).size; simp; omega
          · intro v' w1 hown' hgrow _
            obtain ⟨ho, hbl⟩ := appended hown hsize hown' hgrow
            clear hown' hgrow
            go_wp2
            go_roundw
            case rel => exact ⟨_, _, rfl, HDN.out, ho, (hbl.block _ (by omega)).trans HRES.out, hb.trans (hbl.mono (by omega)), Nat.le_trans hsize hbl.size⟩
            case measure => simp; omega

end Go.Proofs.Ytnfgdaejfeiabaa
