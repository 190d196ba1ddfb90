/-
  Frame, of the specification and of the program: what they answer.
-/
import Derived.Test.YtnfgdaejfeiabaaBase
namespace Go.Proofs.Ytnfgdaejfeiabaa
open Go.RowKit
set_option linter.unusedVariables false
set_option maxHeartbeats 4000000

theorem twoBytes (T : TypeId) (x y : Int) (w : World) :
    (convert 22 9 (Value.slice (some { block := w.heap.size, off := 0 }) 2 2)).run Try.prog (w.alloc (Obj.cells #[Value.int IntKind.u8 x, Value.int IntKind.u8 y] T))
      = .ok (.string (strOfNums [x, y])) (w.alloc (Obj.cells #[Value.int IntKind.u8 x, Value.int IntKind.u8 y] T)) := by
  refine run_convert_bytes_arg _ 22 5 Try.underlying22 Try.underlying5 w.heap.size 0 2 2 [x, y] rfl ?_ 9 Try.underlying9
  intro i hi
  have : i = 0 ∨ i = 1 := by omega
  rcases this with rfl | rfl <;> simp

/-- Two bytes, how many s has, and s; nothing where it has too many. -/
def framed (a : ByteArray) : ByteArray := strOfNums [(a.size : Int) / 256, (a.size : Int) % 256] ++ a
def frameOf (a : ByteArray) : ByteArray := if (2000 : Int) < (a.size : Int) then ByteArray.empty else framed a

theorem framed_size (a : ByteArray) : (framed a).size = 2 + a.size := by rw [framed, ByteArray.size_append, strOfNums_size]; rfl
theorem frameOf_size (a : ByteArray) : (frameOf a).size ≤ 2 + a.size := by
  unfold frameOf
  split
  · show 0 ≤ _; omega
  · rw [framed_size]; omega

theorem specFrame (a0 : ByteArray) (w : World) :
    Calls Try.prog 12 #[.string a0] w fun e w' => e = .returned (.string (frameOf a0)) ∧ Below w.heap.size w w' := by
  by_cases h2 : (2000 : Int) < (a0.size : Int)
  · rw [frameOf, if_pos h2]
    go_enter Try.func12, Try.ntmps12
    go_wp2
    go_ret
    exact ⟨rfl, by go_grown⟩
  · rw [frameOf, if_neg h2]
    have kc := twoBytes
    have ks : ¬ 9223372036854775807 < (strOfNums [(a0.size : Int) / 256, (a0.size : Int) % 256]).size + a0.size := by simp only [strOfNums_size, List.length_cons, List.length_nil]; omega
    have ks' : (strOfNums [(a0.size : Int) / 256, (a0.size : Int) % 256]).size + a0.size ≤ 9223372036854775807 := by omega
    go_enter Try.func12, Try.ntmps12
    go_wp2
    go_ret
    exact ⟨rfl, by go_grown⟩

end Go.Proofs.Ytnfgdaejfeiabaa
