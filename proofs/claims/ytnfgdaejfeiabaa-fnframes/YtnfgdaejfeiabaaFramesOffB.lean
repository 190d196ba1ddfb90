/-
  impl.framesOff, a scope with three labels: what it answers.
-/
import Derived.Test.YtnfgdaejfeiabaaFramesB
import Derived.Test.YtnfgdaejfeiabaaGotos
namespace Go.Proofs.Ytnfgdaejfeiabaa
open Go.RowKit
set_option linter.unusedVariables false
set_option maxHeartbeats 4000000

/-- What holds at each jump: 1: the loop's head; 0: what is left waits; 2: it is bad. -/
def FJ (s : ByteArray) (R : List ByteArray × ByteArray × Bool) (w : World) (l : Nat) (a : Act) (wr : World) : Prop :=
  ∃ (ts : List ByteArray) (left : ByteArray) (o u3 u5 u6 u7 u8 u9 u10 u11 u12 u13 u14 u15 u16 u17 u18 u19 u20 u21 u22 u23 u24 u25 u26 u27 u28 u29 u30 u31 u32 u33 u34 u35 : Value), a = { tmps := #[.string left, undef, .pointer (some ⟨w.heap.size, 0, none⟩), u3, o, u5, u6, u7, u8, u9, u10, u11, u12, u13, u14, u15, u16, u17, u18, u19, u20, u21, u22, u23, u24, u25, u26, u27, u28, u29, u30, u31, u32, u33, u34, u35], defers := [] } ∧
    wr.ownsRow (w.heap.size + 1) 9 1 o ts.length (ts.map .string) ∧ wr.heap[w.heap.size]? = some (.cells #[.string ⟨#[]⟩, .bool false] 27 (0, 0)) ∧
    Below w.heap.size w wr ∧ w.heap.size + 1 ≤ wr.heap.size ∧ left.size ≤ 1000000 ∧
    ((l = 1 ∧ Done s ts left) ∨ (l = 0 ∧ R = (ts, left, false)) ∨ (l = 2 ∧ R = (ts, ⟨#[]⟩, true)))

def left0 (a : Act) : Nat := match a.tmps.getD 0 undef with | .string x => x.size | _ => 0
def Fmu (l : Nat) (a : Act) (_ : World) : Nat := if l = 1 then left0 a + 1 else 0

theorem framesOff (s : ByteArray) (hs : s.size ≤ 1000000) (w : World) :
    Calls Try.prog 21 #[.string s] w fun e w' =>
      ∃ v, e = .returned (.tuple #[.agg #[.string (offs 1000001 s).2.1, .bool (offs 1000001 s).2.2], v]) ∧
        w'.ownsRow w.heap.size 9 1 v (offs 1000001 s).1.length ((offs 1000001 s).1.map .string) ∧ Below w.heap.size w w' := by
  obtain ⟨i0, hi, hz0, hz1, hz2⟩ := info_parts info_string
  obtain ⟨R, hR⟩ : ∃ R, offs 1000001 s = R := ⟨_, rfl⟩
  rw [hR]
  have HR : Hid (offs 1000001 s = R) := hR
  clear hR
  go_enter Try.func21, Try.ntmps21
  go_wp2
  refine wp_scope_gotos_from 1 (FJ s R w) Fmu rfl ?_ ?_ ?_
  · rintro a' wr ⟨ts, left, o, u3, u5, u6, u7, u8, u9, u10, u11, u12, u13, u14, u15, u16, u17, u18, u19, u20, u21, u22, u23, u24, u25, u26, u27, u28, u29, u30, u31, u32, u33, u34, u35, rfl, hown, hres, hb, hsize, hleft, hl⟩
    have HRES : Hid (wr.heap[w.heap.size]? = some (.cells #[.string ⟨#[]⟩, .bool false] 27 (0, 0))) := hres
    have hd : Done s ts left := by
      rcases hl with ⟨_, h⟩ | ⟨h, _⟩ | ⟨h, _⟩
      · exact h
      · simp at h
      · simp at h
    clear hl
    clear hres
    have hlen := hd.length
    by_cases h1 : left.size < 2
    · have HD : Hid (R = (ts, left, false)) := HR.out.symm.trans (hd.short h1)
      go_wp2
      go_step3
      refine ⟨⟨ts, left, o, _, _, _, _, _, _, _, _, _, _, _, _, _, _, _, _, _, _, _, _, _, _, _, _, _, _, _, _, _, _, _, _, rfl, hown, HRES.out, hb, hsize, hleft, .inr (.inl ⟨rfl, HD.out⟩)⟩, ?_⟩
      simp [Fmu]
    · have hone := hd.one h1
      have hbad := hd.bad h1
      have hwait := hd.wait h1
      have htold := toldAhead left (by omega)
      generalize told left = T at hone hbad hwait htold
      by_cases h2 : 2000 < T
      · have HD : Hid (R = (ts, ⟨#[]⟩, true)) := HR.out.symm.trans (hbad h2)
        have h2' : (2000 : Int) < (T : Int) := by omega
        clear hone hbad hwait
        go_wp2_with (go_at_call 23; refine (htold _).mono ?_; rintro e w1 ⟨rfl, hb1⟩)
        go_step3
        refine ⟨⟨ts, left, o, _, _, _, _, _, _, _, _, _, _, _, _, _, _, _, _, _, _, _, _, _, _, _, _, _, _, _, _, _, _, _, _, rfl, own_kept hown hb1, (hb1.block _ (by omega)).trans HRES.out, hb.trans (hb1.mono hb.size), Nat.le_trans hsize hb1.size, hleft, .inr (.inr ⟨rfl, HD.out⟩)⟩, ?_⟩
        simp [Fmu]
      · have h2' : ¬ (2000 : Int) < (T : Int) := by omega
        by_cases h3 : left.size < 2 + T
        · have HD : Hid (R = (ts, left, false)) := HR.out.symm.trans (hwait h2 h3)
          have h3' : (left.size : Int) < 2 + (T : Int) := by omega
          clear hone hbad hwait
          go_wp2_with (go_at_call 23; refine (htold _).mono ?_; rintro e w1 ⟨rfl, hb1⟩)
          go_step3
          refine ⟨⟨ts, left, o, _, _, _, _, _, _, _, _, _, _, _, _, _, _, _, _, _, _, _, _, _, _, _, _, _, _, _, _, _, _, _, _, rfl, own_kept hown hb1, (hb1.block _ (by omega)).trans HRES.out, hb.trans (hb1.mono hb.size), Nat.le_trans hsize hb1.size, hleft, .inr (.inl ⟨rfl, HD.out⟩)⟩, ?_⟩
          simp [Fmu]
        · have h3' : ¬ (left.size : Int) < 2 + (T : Int) := by omega
          have HDN : Hid (Done s (ts ++ [left.extract 2 (2 + T)]) (left.extract (2 + T) left.size)) := hone h2 h3
          have hz : (left.extract 2 (2 + T)).size ≤ 281474976710656 := by simp; omega
          have HZ : Hid ((left.extract (2 + T) left.size).size = left.size - (2 + T)) := by show _ = _; simp
          clear hone hbad hwait
          have hsl := slice_mid left T (by omega)
          have hsl2 := slice_end left T (by omega)
          have hcl := fun w => clone (left.extract 2 (2 + T)) w hz
          clear hz
          go_wp2_with (first
            | (go_at_call 23; refine (htold _).mono ?_; rintro e w1 ⟨rfl, hb1⟩; have hown1 := own_kept hown hb1; have hsz1 := hb1.size)
            | (go_at_call 24; refine (hcl _).mono ?_; rintro e w2 ⟨rfl, hb2⟩; have hown2 := own_kept hown1 hb2; have hsz2 := hb2.size)
            | (at_builtin; refine wpList_append_own _ rfl (.tmp 18) (.tmp 24) 30 rfl (w.heap.size + 1) 9 i0 (.string ⟨#[]⟩) 1 16 Try.underlying30 hi hz0 hz1 hz2 rfl (by decide) _ _ _ rfl (World.ownsRow.alloc (w := w2) hown2 _) ⟨w2.heap.size, 0, none⟩ 1 1 [.string (left.extract 2 (2 + T))] rfl rfl ?c1 ?c2 ?c3 ?c4 ?c5 ?_)
            | go_in)
          case c1 =>
            intro j u hj
            match j, hj with
            | 0, hj =>
              simp at hj
              subst hj
              simp [Addr.add]
          case c2 => intro u hu; simp at hu; subst hu; rfl
          case c3 => unfold maxLen; omega
          case c4 => omega
          case c5 => show _ ≤ (w2.heap.push _).size; simp; omega
          · intro v' w3 hown' hgrow _
            obtain ⟨ho, hbl⟩ := appended (n := 0) hown2 (by omega) hown' hgrow
            clear hown' hgrow
            go_wp2
            go_step3
            refine ⟨⟨_, _, _, _, _, _, _, _, _, _, _, _, _, _, _, _, _, _, _, _, _, _, _, _, _, _, _, _, _, _, _, _, _, _, _, rfl, ho, ?_, ?_, ?_, ?_, .inl ⟨rfl, HDN.out⟩⟩, ?_⟩
            · rw [hbl.block _ (by omega), hb2.block _ (by omega), hb1.block _ (by omega)]; exact HRES.out
            · exact hb.trans ((hb1.mono hb.size).trans ((hb2.mono (by omega)).trans (hbl.mono (by omega))))
            · exact Nat.le_trans (by omega) hbl.size
            · rw [HZ.out]; omega
            · simp [Fmu, left0]; omega
  · rintro l a' wr hl1 ⟨ts, left, o, u3, u5, u6, u7, u8, u9, u10, u11, u12, u13, u14, u15, u16, u17, u18, u19, u20, u21, u22, u23, u24, u25, u26, u27, u28, u29, u30, u31, u32, u33, u34, u35, rfl, hown, hres, hb, hsize, hleft, hl⟩
    have HRES : Hid (wr.heap[w.heap.size]? = some (.cells #[.string ⟨#[]⟩, .bool false] 27 (0, 0))) := hres
    rcases hl with ⟨rfl, hd⟩ | ⟨rfl, HD⟩ | ⟨rfl, HD⟩
    · exact absurd rfl hl1
    · refine ⟨_, rfl, ?_⟩
      clear hres
      have HD' : Hid (R = (ts, left, false)) := HD
      clear HD
      go_wp2_with (go_at_call 24; refine (clone _ _ (by omega)).mono ?_; rintro e w1 ⟨rfl, hb1⟩; obtain ⟨c0, c1, f0, f1⟩ := two_cells ((hb1.block _ (by omega)).trans HRES.out))
      simp only [jumps]
      have hres1 := (hb1.block w.heap.size (by omega)).trans HRES.out
      obtain ⟨d0, d1, d2⟩ := two_read hres1 (.string left) (.bool false)
      refine bodyPost_ret (v := .tuple #[.agg #[.string left, .bool false], o]) (by simp [results, Try.results21, go_sem, d1, d2]) rfl ?_
      rw [HD'.out]
      exact ⟨_, rfl, own_mono (ownsRow_setCell_below (ownsRow_setCell_below (own_kept hown hb1) (by simp) _) (by simp) _) (by omega), ((hb.trans (hb1.mono hb.size)).setCell (by simp) _).setCell (by simp) _⟩
    · refine ⟨_, rfl, ?_⟩
      obtain ⟨c0, c1, f0, f1⟩ := two_cells hres
      clear hres
      have HD' : Hid (R = (ts, ⟨#[]⟩, true)) := HD
      clear HD
      go_wp2
      simp only [jumps]
      obtain ⟨d0, d1, d2⟩ := two_read HRES.out (.string ⟨#[]⟩) (.bool true)
      refine bodyPost_ret (v := .tuple #[.agg #[.string ⟨#[]⟩, .bool true], o]) (by simp [results, Try.results21, go_sem, d1, d2]) rfl ?_
      rw [HD'.out]
      exact ⟨_, rfl, own_mono (ownsRow_setCell_below (ownsRow_setCell_below hown (by simp) _) (by simp) _) (by omega), (hb.setCell (by simp) _).setCell (by simp) _⟩
  · intro again
    go_wp2
    refine wp_label ?_
    simp only [Exit.then]
    rename_i K hK
    refine hK _ _ (again _ _ ?_)
    refine ⟨[], s, _, _, _, _, _, _, _, _, _, _, _, _, _, _, _, _, _, _, _, _, _, _, _, _, _, _, _, _, _, _, _, _, _, rfl, World.ownsRow_nil _ _ _ _, ?_, by go_grown, ?_, hs, .inl ⟨rfl, Done.start s hs⟩⟩
    · exact heap_alloc_new w _
    · simp

end Go.Proofs.Ytnfgdaejfeiabaa
