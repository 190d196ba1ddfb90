/-
  A table of sets as one array: how its rows are read and written.
-/
import Derived.Test.YtjlfmjoallnojacArr
import Derived.Test.YtjlfmjoallnojacGatesM
namespace Go.Proofs.Ytjlfmjoallnojac
open Go.RowKit
set_option linter.unusedVariables false
set_option maxHeartbeats 1000000

theorem flat_get : ∀ (gs : List (List Bool)), (∀ b ∈ gs, b.length = 12) → ∀ q r, r < 12 → gs.flatten[12 * q + r]? = (gs[q]?.bind (·[r]?))
  | [], _, q, r, _ => by simp
  | b :: gs, h, 0, r, hr => by
    have hb := h b (by simp)
    simp only [List.flatten_cons, Nat.mul_zero, Nat.zero_add, List.getElem?_cons_zero, Option.bind_some]
    rw [List.getElem?_append_left (by omega)]
  | b :: gs, h, q + 1, r, hr => by
    have hb := h b (by simp)
    have ih := flat_get gs (fun c hc => h c (by simp [hc])) q r hr
    simp only [List.flatten_cons, List.getElem?_cons_succ]
    rw [List.getElem?_append_right (by omega), ← ih]
    congr 1
    omega

theorem flat_length : ∀ (gs : List (List Bool)), (∀ b ∈ gs, b.length = 12) → gs.flatten.length = 12 * gs.length
  | [], _ => rfl
  | b :: gs, h => by
    have hb := h b (by simp)
    have ih := flat_length gs (fun c hc => h c (by simp [hc]))
    simp only [List.flatten_cons, List.length_append, List.length_cons]
    omega

/-- The table gs lies in block G. -/
structure TabAt (w : World) (G : Nat) (gs : List (List Bool)) : Prop where
  len : gs.length = 12
  row : ∀ b ∈ gs, b.length = 12
  at_ : w.rangeAt G 0 (bls gs.flatten)
  there : w.there G 0 144

theorem TabAt.flat {w : World} {G : Nat} {gs : List (List Bool)} (h : TabAt w G gs) : gs.flatten.length = 144 := by rw [flat_length gs h.row, h.len]

theorem TabAt.rows {w : World} {G : Nat} {gs : List (List Bool)} (h : TabAt w G gs) (j : Nat) (hj : j < 12) : (gs.getD j []).length = 12 ∧ w.rangeAt G (j * 12) (bls (gs.getD j [])) := by
  have hl : j < gs.length := by rw [h.len]; exact hj
  have e : gs.getD j [] = gs[j] := by simp [List.getD, hl]
  rw [e]
  have hr : gs[j].length = 12 := h.row _ (List.getElem_mem _)
  refine ⟨hr, fun k v hv => ?_⟩
  have hk : k < 12 := by
    have := (List.getElem?_eq_some_iff.1 hv).1
    simpa [hr] using this
  have := h.at_ (12 * j + k) v (by
    rw [List.getElem?_map, flat_get gs h.row j k hk, List.getElem?_eq_getElem hl]
    simpa using hv)
  rwa [Nat.zero_add, Nat.mul_comm 12 j] at this

theorem TabAt.lt {w : World} {G : Nat} {gs : List (List Bool)} (h : TabAt w G gs) : G < w.heap.size := by
  have hl := h.flat
  have := h.at_ 0 (.bool (gs.flatten[0]'(by omega))) (by rw [List.getElem?_map, List.getElem?_eq_getElem (by omega)]; rfl)
  exact World.block_lt_of_cell? w _ this

theorem TabAt.thereAt {w : World} {G : Nat} {gs : List (List Bool)} (h : TabAt w G gs) (j : Nat) (hj : j < 12) : w.there G (j * 12) 12 := fun k hk => by
  have := h.there (j * 12 + k) (by omega)
  rwa [Nat.zero_add] at this

theorem TabAt.store {w : World} {G : Nat} {gs : List (List Bool)} (h : TabAt w G gs) (j : Nat) (hj : j < 12) (b : List Bool) (hb : b.length = 12) : TabAt (w.setCells G (j * 12) (bls b)) G (gs.set j b) where
  len := by rw [List.length_set, h.len]
  row := fun c hc => by
    rcases List.mem_or_eq_of_mem_set hc with hc | rfl
    · exact h.row c hc
    · exact hb
  there := World.there_setCells h.there _ _ _
  at_ := fun k v hv => by
    have hrow : ∀ c ∈ gs.set j b, c.length = 12 := fun c hc => by
      rcases List.mem_or_eq_of_mem_set hc with hc | rfl
      · exact h.row c hc
      · exact hb
    have hjl : j < gs.length := by rw [h.len]; exact hj
    obtain ⟨q, r, hr, rfl⟩ : ∃ q r, r < 12 ∧ k = 12 * q + r := ⟨k / 12, k % 12, Nat.mod_lt _ (by omega), by omega⟩
    rw [List.getElem?_map, flat_get _ hrow q r hr] at hv
    rw [Nat.zero_add]
    by_cases e : j = q
    · subst e
      rw [List.getElem?_set_self hjl, Option.bind_some] at hv
      have := World.rangeAt_setCells_same w G (j * 12) (bls b) (by rw [List.length_map, hb]; exact h.thereAt j hj) r v (by rw [List.getElem?_map]; exact hv)
      rw [Nat.mul_comm 12 j]
      exact this
    · rw [List.getElem?_set_ne e] at hv
      rw [World.cell?_setCells_out G (bls b) (j * 12) w ⟨G, 12 * q + r, none⟩ (fun _ _ => by
        show 12 * q + r < j * 12 ∨ j * 12 + (bls b).length ≤ 12 * q + r
        rw [List.length_map, hb]
        omega)]
      have := h.at_ (12 * q + r) v (by rw [List.getElem?_map, flat_get _ h.row q r hr]; exact hv)
      rwa [Nat.zero_add] at this

theorem TabAt.kept {w w' : World} {G : Nat} {gs : List (List Bool)} (h : TabAt w G gs) (hb : w'.heap[G]? = w.heap[G]?) : TabAt w' G gs where
  len := h.len
  row := h.row
  at_ := fun j v hv => by
    have := h.at_ j v hv
    rw [← this]
    simp only [World.cell?, hb]
  there := fun j hj => by
    have := h.there j hj
    have e1 : w'.cell? ⟨G, 0 + j, none⟩ = w.cell? ⟨G, 0 + j, none⟩ := by simp only [World.cell?, hb]
    have e2 : w'.frozen? ⟨G, 0 + j, none⟩ = w.frozen? ⟨G, 0 + j, none⟩ := by simp only [World.frozen?, hb]
    rw [e1, e2]
    exact this

theorem TabAt.far {w : World} {G : Nat} {gs : List (List Bool)} (h : TabAt w G gs) {X : Nat} (hne : G ≠ X) (o : Nat) (cs : List Value) : TabAt (w.setCells X o cs) G gs :=
  h.kept ((grown_setCells X cs o w).block G h.lt (fun e => hne (by simpa using e)))

def isT : Option Value → Bool
  | some (.bool b) => b
  | _ => false

/-- How many of the cells of block G are true. -/
def tw (w : World) (G : Nat) : Nat := (List.range 144).countP (fun k => isT (w.cell? ⟨G, k, none⟩))

theorem countP_range : ∀ (l : List Bool), (List.range l.length).countP (fun k => l.getD k false) = l.countP id := by
  intro l
  have : l = (List.range l.length).map (fun k => l.getD k false) := by
    refine List.ext_getElem (by simp) (fun i h1 h2 => ?_)
    simp [List.getD, h1]
  conv => rhs; rw [this]
  rw [List.countP_map]
  rfl

theorem TabAt.tw {w : World} {G : Nat} {gs : List (List Bool)} (h : TabAt w G gs) : tw w G = cnt gs := by
  unfold Go.Proofs.Ytjlfmjoallnojac.tw cnt
  rw [← countP_range gs.flatten, h.flat]
  refine List.countP_congr (fun k hk => ?_)
  have hk' : k < gs.flatten.length := by rw [h.flat]; simpa using hk
  have := h.at_ k (.bool (gs.flatten[k])) (by rw [List.getElem?_map, List.getElem?_eq_getElem hk']; rfl)
  rw [Nat.zero_add] at this
  rw [this, List.getD_eq_getElem?_getD, List.getElem?_eq_getElem hk']
  rfl

def zero144 : Array Value := (bls (List.replicate 12 (List.replicate 12 false)).flatten).toArray

theorem zeroSets : (∀ w, (zeroValue 41).run Try.prog w = .ok (.agg zero144) w) ∧ (Try.prog.info? 41).map (·.size) = some 144 := zero_of_info (by kernel_rfl)
theorem setsUnd : Try.prog.underlying 41 = some (.array 12 40) := by kernel_rfl

theorem tab_new {w : World} {G : Nat} {gs : List (List Bool)} {t : TypeId} (hl : gs.length = 12) (hr : ∀ b ∈ gs, b.length = 12) (h : w.heap[G]? = some (.cells (bls gs.flatten).toArray t (0, 0))) : TabAt w G gs where
  len := hl
  row := hr
  at_ := range_of h
  there := by
    have := there_of h
    rwa [flat_length gs hr, hl] at this

theorem tab_zero {w : World} {G : Nat} {t : TypeId} (h : w.heap[G]? = some (.cells zero144 t (0, 0))) : TabAt w G (List.replicate 12 (List.replicate 12 false)) :=
  tab_new (by simp) (fun b hb => by rw [List.eq_of_mem_replicate hb]; simp) h

theorem dm_zero (i d : Nat) : dm (List.replicate 12 (List.replicate 12 false)) i d = false := by
  unfold dm
  rw [List.getD_eq_getElem?_getD, List.getD_eq_getElem?_getD, List.getElem?_replicate]
  split
  · simp only [Option.getD_some]
    rw [List.getElem?_replicate]
    split <;> rfl
  · simp

/-- A table as a value. -/
def tabV (gs : List (List Bool)) : Value := .agg (bls gs.flatten).toArray

theorem wpList_loadTab {ops : Array Oper} {rest : List Oper} {op : Oper} {a : Act} {w : World} {Q : Exit → Act → World → Prop} (hgd : op.guard = none) (x : Operand) (ho : op.op = .load 41 x)
    (G : Nat) (gs : List (List Bool)) (hx : a.eval x = .pointer (some ⟨G, 0, none⟩)) (hT : TabAt w G gs)
    (h : wpList Try.prog ops Q rest (a.put op.dst (tabV gs)) w) : wpList Try.prog ops Q (op :: rest) a w :=
  wpList_load_mid hgd 41 x ho G 0 hx (bls gs.flatten) _ hT.at_ setsUnd rfl (by rw [zeroSets.2, List.length_map, hT.flat]) h

theorem wpList_storeTab {ops : Array Oper} {rest : List Oper} {op : Oper} {a : Act} {w : World} {Q : Exit → Act → World → Prop} (hgd : op.guard = none) (hdst : op.dst = none) (x y : Operand) (ho : op.op = .store 41 x y)
    (b : Nat) (gs : List (List Bool)) (hx : a.eval x = .pointer (some ⟨b, 0, none⟩)) (hy : a.eval y = tabV gs) (hl : gs.flatten.length = 144) (ht : w.there b 0 144)
    (h : wpList Try.prog ops Q rest a (w.setCells b 0 (bls gs.flatten))) : wpList Try.prog ops Q (op :: rest) a w :=
  wpList_store_mid hgd 41 x y ho b 0 (bls gs.flatten).toArray hx hy (by rw [List.size_toArray, List.length_map, hl]; exact ht) (by rw [zeroSets.2, List.size_toArray, List.length_map, hl]) (bls_one _) (by rw [hdst, List.toList_toArray]; exact h)

theorem TabAt.copied {w : World} {b : Nat} {gs : List (List Bool)} (hl : gs.length = 12) (hr : ∀ c ∈ gs, c.length = 12) (ht : w.there b 0 144) : TabAt (w.setCells b 0 (bls gs.flatten)) b gs where
  len := hl
  row := hr
  at_ := World.rangeAt_setCells_same w b 0 _ (by rw [List.length_map, flat_length gs hr, hl]; exact ht)
  there := World.there_setCells ht _ _ _

theorem zero_there {w : World} {G : Nat} {t : TypeId} (h : w.heap[G]? = some (.cells zero144 t (0, 0))) : w.there G 0 144 := (tab_zero h).there

theorem bodyPost_tab {fn : Func} {p : Tmp} {R : Ending → World → Prop} {a : Act} {w : World} (h : fn.results = #[.cell p 41]) (G : Nat) (gs : List (List Bool)) (hp : a.tmps.getD p undef = .pointer (some ⟨G, 0, none⟩)) (hT : TabAt w G gs)
    (hdf : a.defers = []) (hR : R (.returned (tabV gs)) w) : bodyPost Try.prog fn R .ret a w :=
  bodyPost_cell h G 0 (bls gs.flatten) _ hp hT.at_ setsUnd rfl (by rw [zeroSets.2, List.length_map, hT.flat]) hdf hR

end Go.Proofs.Ytjlfmjoallnojac
