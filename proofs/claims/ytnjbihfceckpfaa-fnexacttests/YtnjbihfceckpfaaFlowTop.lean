/-
  Chapter 7, the program's side: Enter, Leave, Keep, Start, Flow.
-/
import Derived.Test.YtnjbihfceckpfaaFlowM
import Derived.Laws.EntriesVeiled
namespace Go.Proofs.Ytnjbihfceckpfaa
set_option maxRecDepth 20000
open Go.RowKit
set_option linter.unusedVariables false
set_option maxHeartbeats 1000000

def leaveL : List Int := [1, 2, 4, 8, 0, 0, 0]
def keepL : List Int := [1, 0, 0, 0, 16, 32, 64]
def enterAns (c : Int) : List Int := if c = 1 then leaveL else if c = 2 then [113, 2, 4, 8, 0, 0, 0] else []
def startAns (c : Int) : Int := if c = 1 then 1 else if c = 2 then 127 else -1

theorem implStart (c : Int) (w : World) : Calls Try.prog 89 #[.int .i64 c] w fun e w' => e = .returned (.int .i64 (startAns c)) ∧ Below w.heap.size w w' := by
  by_cases h1 : c = 1
  · subst h1
    go_enter Try.func89, Try.ntmps89
    go_wp2
    go_ret
    exact ⟨rfl, Below.refl _ _⟩
  · by_cases h2 : c = 2
    · subst h2
      go_enter Try.func89, Try.ntmps89
      go_wp2
      go_ret
      exact ⟨rfl, Below.refl _ _⟩
    · go_enter Try.func89, Try.ntmps89
      go_wp2
      go_ret
      exact ⟨by simp [startAns, h1, h2], Below.refl _ _⟩

theorem only15 : onlyL 15 = leaveL := by decide
theorem only113 : onlyL 113 = keepL := by decide

/-- Seven cells that are new, and what is stored there. -/
abbrev fresh7 (w : World) : World := w.alloc (.cells #[.int .i64 0, .int .i64 0, .int .i64 0, .int .i64 0, .int .i64 0, .int .i64 0, .int .i64 0] 64)

theorem fresh_at (w : World) : RelAt (fresh7 w) w.heap.size (List.replicate 7 0) := heap_alloc_new w _

theorem fresh_there (w : World) : (fresh7 w).there w.heap.size 0 7 := by simpa using (fresh_at w).there

theorem fresh_rel (w : World) (zs : List Int) (h : zs.length = 7) : RelAt ((fresh7 w).setCells w.heap.size 0 (ints zs)) w.heap.size zs := RelAt.store (fresh_at w) (by simpa using h)

theorem fresh_below {base : Nat} {w0 w : World} (hb : Below base w0 w) (h : base ≤ w.heap.size) (vs : List Value) : Below base w0 ((fresh7 w).setCells w.heap.size 0 vs) := by
  have h1 : Below base w0 (fresh7 w) := hb.alloc h _
  exact h1.grown (grown_setCells7 _ _ _ _) (by simp; omega) (fun k hk => by simp at hk; omega)

theorem implLeave (w : World) : Calls Try.prog 127 #[] w fun e w' => ∃ a, e = .returned a ∧ w'.ownsRow w.heap.size 64 1 a leaveL.length (ints leaveL) ∧ Below w.heap.size w w' := by
  have hth := fun W => themselves 15 W
  rw [only15] at hth
  obtain ⟨zs, hzs⟩ : ∃ zs, leaveL = zs := ⟨_, rfl⟩
  have hz7 : zs.length = 7 := by rw [← hzs]; rfl
  rw [hzs] at hth ⊢
  clear hzs
  go_enter Try.func127, Try.ntmps127
  go_wp2_with fail
  go_at_call 138
  refine (hth _).mono ?_
  rintro e w1 ⟨rfl, b1⟩
  clear hth
  have hst := fresh_there w1
  have HS : Hid _ := hst
  clear hst
  go_wp2_with (refine wpList_storeRel rfl rfl (.tmp 1) (.tmp 2) rfl w1.heap.size 0 zs rfl rfl hz7 HS.out ?_)
  go_ret
  exact ⟨_, rfl, by rw [hz7]; exact RelAt.own (fresh_rel w1 zs hz7) b1.size hz7, fresh_below b1 b1.size _⟩

theorem implKeep (w : World) : Calls Try.prog 128 #[] w fun e w' => ∃ a, e = .returned a ∧ w'.ownsRow w.heap.size 64 1 a keepL.length (ints keepL) ∧ Below w.heap.size w w' := by
  have hth := fun W => themselves 113 W
  rw [only113] at hth
  obtain ⟨zs, hzs⟩ : ∃ zs, keepL = zs := ⟨_, rfl⟩
  have hz7 : zs.length = 7 := by rw [← hzs]; rfl
  rw [hzs] at hth ⊢
  clear hzs
  go_enter Try.func128, Try.ntmps128
  go_wp2_with fail
  go_at_call 138
  refine (hth _).mono ?_
  rintro e w1 ⟨rfl, b1⟩
  clear hth
  have hst := fresh_there w1
  have HS : Hid _ := hst
  clear hst
  go_wp2_with (refine wpList_storeRel rfl rfl (.tmp 1) (.tmp 2) rfl w1.heap.size 0 zs rfl rfl hz7 HS.out ?_)
  go_ret
  exact ⟨_, rfl, by rw [hz7]; exact RelAt.own (fresh_rel w1 zs hz7) b1.size hz7, fresh_below b1 b1.size _⟩

theorem implEnter (c : Int) (w : World) : Calls Try.prog 113 #[.int .i64 c] w fun e w' => ∃ a, e = .returned a ∧ w'.ownsRow w.heap.size 64 1 a (enterAns c).length (ints (enterAns c)) ∧ Below w.heap.size w w' := by
  have hth := fun W => themselves 15 W
  rw [only15] at hth
  obtain ⟨zs, hzs⟩ : ∃ zs, leaveL = zs := ⟨_, rfl⟩
  have hz7 : zs.length = 7 := by rw [← hzs]; rfl
  rw [hzs] at hth
  by_cases h1 : c = 1
  · have he : enterAns c = zs := by simp [enterAns, h1, hzs]
    rw [he]
    subst h1
    clear he hzs
    go_enter Try.func113, Try.ntmps113
    go_wp2_with fail
    go_at_call 138
    refine (hth _).mono ?_
    rintro e w1 ⟨rfl, b1⟩
    clear hth
    have hst := fresh_there w1
    have HS : Hid _ := hst
    clear hst
    go_wp2_with (refine wpList_storeRel rfl rfl (.tmp 3) (.tmp 4) rfl w1.heap.size 0 zs rfl rfl hz7 HS.out ?_)
    go_ret
    exact ⟨_, rfl, by rw [hz7]; exact RelAt.own (fresh_rel w1 zs hz7) b1.size hz7, fresh_below b1 b1.size _⟩
  · by_cases h2 : c = 2
    · have he : enterAns c = zs.set 0 113 := by rw [← hzs]; simp [enterAns, h2, leaveL]
      have hc0 : zs.getD 0 0 = 1 := by rw [← hzs]; rfl
      rw [he]
      subst h2
      clear he hzs
      go_enter Try.func113, Try.ntmps113
      go_wp2_with fail
      go_at_call 138
      refine (hth _).mono ?_
      rintro e w1 ⟨rfl, b1⟩
      clear hth
      have hst := fresh_there w1
      have HS : Hid _ := hst
      have B0 := fresh_rel w1 zs hz7
      have L0 := fresh_below b1 b1.size (ints zs)
      obtain ⟨c0, f0⟩ := B0.cell 0 (by omega)
      rw [hc0] at c0
      have H0 : Hid _ := B0
      clear hst B0
      go_wp2_with (refine wpList_storeRel rfl rfl (.tmp 3) (.tmp 4) rfl w1.heap.size 0 zs rfl rfl hz7 HS.out ?_)
      go_ret
      exact ⟨_, rfl, by have e : (zs.set 0 113).length = 7 := by simpa using hz7
                        rw [e]; exact RelAt.own (RelAt.set H0.out 0 113) b1.size e, L0.setCell b1.size _⟩
    · have he : enterAns c = [] := by simp [enterAns, h1, h2]
      rw [he]
      clear he hzs
      go_enter Try.func113, Try.ntmps113
      go_wp2_with fail
      go_at_call 138
      refine (hth _).mono ?_
      rintro e w1 ⟨rfl, b1⟩
      clear hth
      have hst := fresh_there w1
      have HS : Hid _ := hst
      clear hst
      go_wp2_with (refine wpList_storeRel rfl rfl (.tmp 3) (.tmp 4) rfl w1.heap.size 0 zs rfl rfl hz7 HS.out ?_)
      go_ret
      exact ⟨_, rfl, ⟨rfl, .inl ⟨rfl, rfl⟩⟩, fresh_below b1 b1.size _⟩

/-- A client's flows, as a value. -/
def flowsV (m : Nat) : Value := .agg #[.func (.func 105) #[] #[], .func (.func 106) #[] #[], .func (.func 107) #[] #[], .func (.func m) #[] #[]]

theorem flowsOf1 (w : World) : Calls Try.prog 75 #[.int .i64 1] w fun e w' => e = .returned (.tuple #[flowsV 108, .bool true]) ∧ Below w.heap.size w w' := by
  go_enter Try.func75, Try.ntmps75
  go_wp2
  go_returns
  exact ⟨rfl, by go_grown⟩

theorem flowsOf2 (w : World) : Calls Try.prog 75 #[.int .i64 2] w fun e w' => e = .returned (.tuple #[flowsV 107, .bool true]) ∧ Below w.heap.size w w' := by
  go_enter Try.func75, Try.ntmps75
  go_wp2
  go_returns
  exact ⟨rfl, by go_grown⟩

theorem flowsOfNo (c : Int) (h1 : ¬ c = 1) (h2 : ¬ c = 2) (w : World) : Calls Try.prog 75 #[.int .i64 c] w fun e w' => e = .returned (.tuple #[.agg #[.nilFunc, .nilFunc, .nilFunc, .nilFunc], .bool false]) ∧ Below w.heap.size w w' := by
  go_enter Try.func75, Try.ntmps75
  go_wp2
  go_returns
  exact ⟨rfl, by go_grown⟩

theorem factOfY (k x : Int) (y : Nat) (hy : y < 6) (w : World) : Calls Try.prog 105 #[.agg #[.int .i64 k, .int .i64 x, .int .i64 y]] w fun e w' => e = .returned (.int .i64 (factN y)) ∧ Below w.heap.size w w' := by
  have hf := fun W => factOf y hy W
  go_enter Try.func105, Try.ntmps105
  go_wp2_with fail
  go_at_call 59
  refine (hf _).mono ?_
  rintro e w1 ⟨rfl, rfl⟩
  go_wp2
  go_ret
  exact ⟨rfl, by go_grown⟩

theorem factsOfXAndY (k : Int) (x y : Nat) (hx : x < 6) (hy : y < 6) (w : World) : Calls Try.prog 106 #[.agg #[.int .i64 k, .int .i64 x, .int .i64 y]] w fun e w' => e = .returned (.int .i64 (lor (factN x) (factN y))) ∧ Below w.heap.size w w' := by
  have hf := fun W => factOf x hx W
  have hg := fun W => factOf y hy W
  go_enter Try.func106, Try.ntmps106
  go_wp2_with fail
  go_region_with (first
    | (go_at_call 59; refine (hf _).mono ?_; rintro e w1 ⟨rfl, rfl⟩)
    | (go_at_call 59; refine (hg _).mono ?_; rintro e w1 ⟨rfl, rfl⟩))
  all_goals
    go_wp2
    go_ret
    exact ⟨rfl, by go_grown⟩

theorem noFact (k x y : Int) (w : World) : Calls Try.prog 107 #[.agg #[.int .i64 k, .int .i64 x, .int .i64 y]] w fun e w' => e = .returned (.int .i64 0) ∧ Below w.heap.size w w' := by
  go_enter Try.func107, Try.ntmps107
  go_wp2
  go_ret
  exact ⟨rfl, by go_grown⟩

theorem factThatAlwaysHolds (k x y : Int) (w : World) : Calls Try.prog 108 #[.agg #[.int .i64 k, .int .i64 x, .int .i64 y]] w fun e w' => e = .returned (.int .i64 1) ∧ Below w.heap.size w w' := by
  go_enter Try.func108, Try.ntmps108
  go_wp2
  go_ret
  exact ⟨rfl, by go_grown⟩

end Go.Proofs.Ytnjbihfceckpfaa
