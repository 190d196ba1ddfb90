/-
  Put together out of: LayersP, ILoop, SpecProof2.
-/
import Derived.Test.YtciccbbgamklbaaG08RegionLast
import Derived.Test.YtciccbbgamklbaaJLoop
import Derived.Lib.QuietBelow
/-
  The state of spec.Proof between two layers: how many items there are, one item in memory.
-/
namespace Go.Proofs.Ytciccbbgamklbaa
open Go.RowKit
set_option linter.unusedVariables false

theorem PL.lenN {c : Int} {ss : List Stm} {s : Int} {i t : Nat} {v : Value} {w : World} {G L : Nat} {N : List Itm} {seen : List Int} {gr cr gf cf : Nat} {us : List Value} {wr : World} (h : PL c ss s i t v w G L N seen gr cr gf cf us wr) (hsl : ss.length ≤ 12) (hp : procOk ss = true) : N.length ≤ 84 := by
  have := items_len (n := ss.length) (N := N) (fun e he => ?_) h.lay.uniq
  · omega
  · obtain ⟨_, i, t, ht, e2, hB, _⟩ := h.lay.item e he
    obtain ⟨j, hj, hjl⟩ := RW_in hp hB.1
    have := hB.2.1
    exact ⟨i, t, by omega, ht, this, e2⟩

/-- One item in memory. -/
theorem PL.item {c : Int} {ss : List Stm} {s : Int} {i t : Nat} {v : Value} {w : World} {G L : Nat} {N : List Itm} {seen : List Int} {gr cr gf cf : Nat} {us : List Value} {wr : World} (h : PL c ss s i t v w G L N seen gr cr gf cf us wr) {k : Nat} (hk : k < N.length) :
    ∃ (e : Itm) (a m ca : Nat), N[k]? = some e ∧ e.1.length = m + 1 ∧ L = m + 1 ∧ wr.cell? ⟨gr, k, none⟩ = some (.slice (some ⟨a, 0, none⟩) (m + 1) ca) ∧ wr.cell? ⟨a, m, none⟩ = some (.int .i64 (lastI e.1)) ∧ wr.cell? ⟨gf, k, none⟩ = some (.int .i64 e.2) := by
  have he : N[k]? = some N[k] := by simp [hk]
  obtain ⟨hl, _⟩ := h.lay.item N[k] (List.getElem_mem hk)
  have hpos := h.lay.pos
  obtain ⟨m, hm⟩ : ∃ m, L = m + 1 := ⟨L - 1, by omega⟩
  have hrow := h.mem.row
  have hml : (N.map Prod.fst).length = N.length := by simp
  rw [← hml] at hrow
  obtain ⟨u, hu, hc, ho⟩ := hrow.at (j := k) (by omega)
  have e1 : (N.map Prod.fst)[k]'(by omega) = N[k].1 := by simp
  rw [e1, hl, hm] at ho
  rcases own_shape ho with ⟨_, e3, _⟩ | ⟨ga, gc, e3, _⟩
  · omega
  · subst e3
    refine ⟨N[k], ga, m, gc, he, by omega, hm, hc, ?_, ?_⟩
    · rw [ho.cellAt m (by omega)]
      have : N[k].1[m]? = some (lastI N[k].1) := by
        rw [lastI_at (k := m) (by omega), List.getD_eq_getElem?_getD, List.getElem?_eq_getElem (by omega)]
        rfl
      simp [ints, this]
    · have hf := h.mem.fac
      have hfl : (N.map Prod.snd).length = N.length := by simp
      rw [hfl] at hf
      rw [hf.cellAt k (by omega)]
      simp [ints, hk]

end Go.Proofs.Ytciccbbgamklbaa

/-
  spec.Proof: the loop over the items of a layer, as a theorem of its own.
-/
namespace Go.Proofs.Ytciccbbgamklbaa
open Go.RowKit
set_option linter.unusedVariables false
set_option linter.unusedSimpArgs false
set_option maxHeartbeats 4000000
set_option maxRecDepth 20000

noncomputable def iBody : Code := ((loopsIn (Try.f6.body.getD .skip))[3]?).getD .skip

theorem iLoop {Q0 : Exit → Act → World → Prop} (ss : List Stm) (c s : Int) (i t : Nat) (v : Value) (w : World) (hok : procOk ss = true) (h12 : ss.length ≤ 12) (hc : c = 1 ∨ c = 2) (hl : ss.length ≤ maxLen) (hv : Reads3 w v ss) (G L : Nat) (N : List Itm) (seen : List Int) (gr cr gf cf : Nat) (us : List Value) (wy : World)
    (HP : Hid (PL c ss s i t v w G L N seen gr cr gf cf us wy)) (hnl : N.length ≤ 84) (hN2 : (N.length : Int) ≤ 84) (gn0 cn0 gm0 cm0 : Nat) (wr : World) (NS0 : Hid (NS wy wy wy.heap.size wy.heap.size [] gn0 cn0 gm0 cm0 [] wr))
    {z0 z2 z3 z4 z6 z7 z8 z9 z10 z14 z15 z16 z17 z21 z22 z23 z24 z25 z26 z27 z28 z29 z30 z31 z32 z33 z34 z35 z36 z37 z38 z39 z40 z41 z42 z43 z44 z45 z46 z47 z48 z49 z50 z51 z52 z53 z54 z55 z56 z57 z58 z59 z60 z61 z62 z63 z64 z65 z66 z67 z68 z69 z70 z71 z72 z73 z74 z75 z76 z77 z78 z79 z80 z81 z82 z83 z84 z85 z86 z87 z88 z89 z90 z91 z92 z93 z94 z95 z96 z97 z98 z99 z100 z101 z102 z103 z104 z105 z106 z107 z108 z109 z110 z111 z112 z113 z114 z115 z116 z117 z118 z119 z120 z121 z122 z123 z124 z125 z126 z127 z128 z129 z130 z131 z132 z133 z134 z135 z136 z137 z138 z139 z140 z141 z142 z143 z144 z145 z146 z147 z148 z149 z150 z151 z152 z153 z154 z155 z156 z157 z158 z159 z160 z161 z162 z163 z164 z165 z166 z167 z168 z169 z170 z171 z172 z173 z174 z175 z176 z177 z178 z179 z180 z181 z182 z183 z184 z185 z186 z187 z188 z189 z190 z191 z192 z193 z194 z195 z196 z197 z198 z199 z200 z201 z202 z203 z204 z205 z206 z207 z208 z209 z210 z211 z212 z213 z214 z215 z216 z217 z218 z219 z220 z221 z222 z223 z224 z225 z226 z227 z228 z229 z230 z231 z232 z233 z234 z235 z236 z237 z238 z239 z240 z241 z242 z243 z244 z245 z246 z247 z248 z249 z250 z251 z252 z253 z254 z255 z256 z257 z258 z259 z260 z261 z262 z263 z264 z265 z266 z267 z268 z269 z270 z271 z272 z273 z274 z275 z276 z277 z278 z279 z280 z281 z282 z283 z284 z285 z286 z287 z288 z289 z290 z291 z292 z293 z294 z295 z296 z297 z298 z299 z300 z301 z302 z303 z304 z305 z306 z307 z308 z309 z310 z311 : Value}
    (HQP : Hid (∀ x a d y w, Q0 (.panic x) (Act.put a (some d) y) w → Q0 (.panic x) a w))
    (hexit : ∀ (M : List Itm) (gn cn gm cm : Nat) (us2 : List Value) (wq : World) (x21 x22 x23 x24 x25 x26 x27 x28 x145 x146 x147 x148 x149 x150 x151 x152 x153 x154 x155 x156 x157 x158 x159 x160 x161 x162 x163 x164 x165 x166 x167 x168 x169 x170 x171 x172 x173 x174 x175 x176 x177 x178 x179 x180 x181 x182 x183 x184 x185 x186 x187 x188 x189 x190 x191 x192 x193 x194 x195 x196 x197 x198 x199 x200 x201 x202 x203 x204 x205 x206 x207 x208 x209 x210 x211 x212 x213 x214 x215 x216 x217 x218 x219 x220 x221 x222 x223 x224 x225 x226 x227 x228 x229 x230 x231 x232 x233 x234 x235 x236 x237 x238 x239 x240 x241 x242 x243 x244 x245 x246 x247 x248 x249 x250 x251 x252 x253 x254 x255 x256 x257 x258 x259 x260 x261 x262 x263 x264 x265 x266 x267 x268 x269 x270 x271 x272 x273 x274 x275 x276 : Value), NS wy wy wy.heap.size wy.heap.size M gn cn gm cm us2 wq → MinOf (FI c ss seen (N.take N.length)) M → Q0 (.exit 6) ⟨List.toArray (z0 :: (.int .i64 c) :: z2 :: z3 :: z4 :: (.pointer (some ⟨w.heap.size, 0, none⟩)) :: z6 :: z7 :: z8 :: z9 :: z10 :: (.slice (some ⟨G, 0, none⟩) ss.length ss.length) :: (.slice (some ⟨gr, 0, none⟩) N.length cr) :: (.slice (some ⟨gf, 0, none⟩) N.length cf) :: z14 :: z15 :: z16 :: z17 :: (.slice (some ⟨gn, 0, none⟩) M.length cn) :: (.slice (some ⟨gm, 0, none⟩) M.length cm) :: (.int .i64 (N.length : Int)) :: (x21) :: (x22) :: (x23) :: (x24) :: (x25) :: (x26) :: (x27) :: (x28) :: z29 :: z30 :: z31 :: z32 :: z33 :: z34 :: z35 :: z36 :: z37 :: z38 :: z39 :: z40 :: z41 :: z42 :: z43 :: z44 :: z45 :: z46 :: z47 :: z48 :: z49 :: z50 :: z51 :: z52 :: z53 :: z54 :: z55 :: z56 :: z57 :: z58 :: z59 :: z60 :: z61 :: z62 :: z63 :: z64 :: z65 :: z66 :: z67 :: z68 :: z69 :: z70 :: z71 :: z72 :: z73 :: z74 :: z75 :: z76 :: z77 :: z78 :: z79 :: z80 :: z81 :: z82 :: z83 :: z84 :: z85 :: z86 :: z87 :: z88 :: z89 :: z90 :: z91 :: z92 :: z93 :: z94 :: z95 :: z96 :: z97 :: z98 :: z99 :: z100 :: z101 :: z102 :: z103 :: z104 :: z105 :: z106 :: z107 :: z108 :: z109 :: z110 :: z111 :: z112 :: z113 :: z114 :: z115 :: z116 :: z117 :: z118 :: z119 :: z120 :: z121 :: z122 :: z123 :: z124 :: z125 :: z126 :: z127 :: z128 :: z129 :: z130 :: z131 :: z132 :: z133 :: z134 :: z135 :: z136 :: z137 :: z138 :: z139 :: z140 :: z141 :: z142 :: z143 :: z144 :: (x145) :: (x146) :: (x147) :: (x148) :: (x149) :: (x150) :: (x151) :: (x152) :: (x153) :: (x154) :: (x155) :: (x156) :: (x157) :: (x158) :: (x159) :: (x160) :: (x161) :: (x162) :: (x163) :: (x164) :: (x165) :: (x166) :: (x167) :: (x168) :: (x169) :: (x170) :: (x171) :: (x172) :: (x173) :: (x174) :: (x175) :: (x176) :: (x177) :: (x178) :: (x179) :: (x180) :: (x181) :: (x182) :: (x183) :: (x184) :: (x185) :: (x186) :: (x187) :: (x188) :: (x189) :: (x190) :: (x191) :: (x192) :: (x193) :: (x194) :: (x195) :: (x196) :: (x197) :: (x198) :: (x199) :: (x200) :: (x201) :: (x202) :: (x203) :: (x204) :: (x205) :: (x206) :: (x207) :: (x208) :: (x209) :: (x210) :: (x211) :: (x212) :: (x213) :: (x214) :: (x215) :: (x216) :: (x217) :: (x218) :: (x219) :: (x220) :: (x221) :: (x222) :: (x223) :: (x224) :: (x225) :: (x226) :: (x227) :: (x228) :: (x229) :: (x230) :: (x231) :: (x232) :: (x233) :: (x234) :: (x235) :: (x236) :: (x237) :: (x238) :: (x239) :: (x240) :: (x241) :: (x242) :: (x243) :: (x244) :: (x245) :: (x246) :: (x247) :: (x248) :: (x249) :: (x250) :: (x251) :: (x252) :: (x253) :: (x254) :: (x255) :: (x256) :: (x257) :: (x258) :: (x259) :: (x260) :: (x261) :: (x262) :: (x263) :: (x264) :: (x265) :: (x266) :: (x267) :: (x268) :: (x269) :: (x270) :: (x271) :: (x272) :: (x273) :: (x274) :: (x275) :: (x276) :: z277 :: z278 :: z279 :: z280 :: z281 :: z282 :: z283 :: z284 :: z285 :: z286 :: z287 :: z288 :: z289 :: z290 :: z291 :: z292 :: z293 :: z294 :: z295 :: z296 :: z297 :: z298 :: z299 :: z300 :: z301 :: z302 :: z303 :: z304 :: z305 :: z306 :: z307 :: z308 :: z309 :: z310 :: z311 :: ([] : List Value)), []⟩ wq) :
    Code.wp Try.prog (Code.loop iBody) Q0 ⟨List.toArray (z0 :: (.int .i64 c) :: z2 :: z3 :: z4 :: (.pointer (some ⟨w.heap.size, 0, none⟩)) :: z6 :: z7 :: z8 :: z9 :: z10 :: (.slice (some ⟨G, 0, none⟩) ss.length ss.length) :: (.slice (some ⟨gr, 0, none⟩) N.length cr) :: (.slice (some ⟨gf, 0, none⟩) N.length cf) :: z14 :: z15 :: z16 :: z17 :: (.slice (some ⟨gn0, 0, none⟩) 0 cn0) :: (.slice (some ⟨gm0, 0, none⟩) 0 cm0) :: (.int .i64 0) :: z21 :: z22 :: z23 :: z24 :: z25 :: z26 :: z27 :: z28 :: z29 :: z30 :: z31 :: z32 :: z33 :: z34 :: z35 :: z36 :: z37 :: z38 :: z39 :: z40 :: z41 :: z42 :: z43 :: z44 :: z45 :: z46 :: z47 :: z48 :: z49 :: z50 :: z51 :: z52 :: z53 :: z54 :: z55 :: z56 :: z57 :: z58 :: z59 :: z60 :: z61 :: z62 :: z63 :: z64 :: z65 :: z66 :: z67 :: z68 :: z69 :: z70 :: z71 :: z72 :: z73 :: z74 :: z75 :: z76 :: z77 :: z78 :: z79 :: z80 :: z81 :: z82 :: z83 :: z84 :: z85 :: z86 :: z87 :: z88 :: z89 :: z90 :: z91 :: z92 :: z93 :: z94 :: z95 :: z96 :: z97 :: z98 :: z99 :: z100 :: z101 :: z102 :: z103 :: z104 :: z105 :: z106 :: z107 :: z108 :: z109 :: z110 :: z111 :: z112 :: z113 :: z114 :: z115 :: z116 :: z117 :: z118 :: z119 :: z120 :: z121 :: z122 :: z123 :: z124 :: z125 :: z126 :: z127 :: z128 :: z129 :: z130 :: z131 :: z132 :: z133 :: z134 :: z135 :: z136 :: z137 :: z138 :: z139 :: z140 :: z141 :: z142 :: z143 :: z144 :: z145 :: z146 :: z147 :: z148 :: z149 :: z150 :: z151 :: z152 :: z153 :: z154 :: z155 :: z156 :: z157 :: z158 :: z159 :: z160 :: z161 :: z162 :: z163 :: z164 :: z165 :: z166 :: z167 :: z168 :: z169 :: z170 :: z171 :: z172 :: z173 :: z174 :: z175 :: z176 :: z177 :: z178 :: z179 :: z180 :: z181 :: z182 :: z183 :: z184 :: z185 :: z186 :: z187 :: z188 :: z189 :: z190 :: z191 :: z192 :: z193 :: z194 :: z195 :: z196 :: z197 :: z198 :: z199 :: z200 :: z201 :: z202 :: z203 :: z204 :: z205 :: z206 :: z207 :: z208 :: z209 :: z210 :: z211 :: z212 :: z213 :: z214 :: z215 :: z216 :: z217 :: z218 :: z219 :: z220 :: z221 :: z222 :: z223 :: z224 :: z225 :: z226 :: z227 :: z228 :: z229 :: z230 :: z231 :: z232 :: z233 :: z234 :: z235 :: z236 :: z237 :: z238 :: z239 :: z240 :: z241 :: z242 :: z243 :: z244 :: z245 :: z246 :: z247 :: z248 :: z249 :: z250 :: z251 :: z252 :: z253 :: z254 :: z255 :: z256 :: z257 :: z258 :: z259 :: z260 :: z261 :: z262 :: z263 :: z264 :: z265 :: z266 :: z267 :: z268 :: z269 :: z270 :: z271 :: z272 :: z273 :: z274 :: z275 :: z276 :: z277 :: z278 :: z279 :: z280 :: z281 :: z282 :: z283 :: z284 :: z285 :: z286 :: z287 :: z288 :: z289 :: z290 :: z291 :: z292 :: z293 :: z294 :: z295 :: z296 :: z297 :: z298 :: z299 :: z300 :: z301 :: z302 :: z303 :: z304 :: z305 :: z306 :: z307 :: z308 :: z309 :: z310 :: z311 :: ([] : List Value)), []⟩ wr := by
  have HX : Hid _ := hexit
  clear hexit
  obtain ⟨vo, vc, hv0, hcv⟩ := id hv
  have HV0 : Hid _ := hv0
  clear hv0
  conv => arg 2; arg 1; whnf
  go_loopw [18, 19, 20] (fun nv mv iv wq => ∃ (a : Nat) (M : List Itm) (gn cn gm cm : Nat) (us2 : List Value), a ≤ N.length ∧ iv = .int .i64 a ∧ nv = .slice (some ⟨gn, 0, none⟩) M.length cn ∧ mv = .slice (some ⟨gm, 0, none⟩) M.length cm ∧ NS wy wy wy.heap.size wy.heap.size M gn cn gm cm us2 wq ∧ MinOf (FI c ss seen (N.take a)) M) (fun _ _ iv _ => N.length - (intOf iv).toNat)
  case atStart => exact ⟨0, [], gn0, cn0, gm0, cm0, [], Nat.zero_le _, rfl, rfl, rfl, NS0.out, minI_start⟩
  case round =>
    obtain ⟨a, M, gn, cn, gm, cm, us2, ha, rfl, rfl, rfl, hS, hM⟩ := hrel
    have HS : Hid _ := hS
    have HM : Hid _ := hM
    have HNL : Hid (a = N.length → True) := fun _ => trivial
    clear hS hM NS0 HNL
    by_cases hla : a < N.length
    · --STAGE i
      have hla' : (a : Int) < (N.length : Int) := by omega
      obtain ⟨e, ea, m, ca, he, hm1, hm2, c1, c2, c3⟩ := HP.out.item hla
      obtain ⟨_, j, u, hu7, e2, hBr, _⟩ := HP.out.lay.item e (List.mem_of_getElem? he)
      obtain ⟨j', hj', hjl⟩ := RW_in hok hBr.1
      have hje := hBr.2.1
      obtain rfl : j' = j := by omega
      have HOE := HP.out.mem.row
      have hml : (N.map Prod.fst).length = N.length := by simp
      rw [← hml] at HOE
      have HEO : Hid (wy.ownsRow (G + 1) 2 1 (.slice (some ⟨ea, 0, none⟩) (m + 1) ca) (m + 1) (ints e.1)) := by
        obtain ⟨ue, _, hce, hoe⟩ := HOE.at (j := a) (by omega)
        have e1 : (N.map Prod.fst)[a]'(by omega) = e.1 := by
          rw [List.getElem?_eq_getElem hla] at he
          have : N[a] = e := by simpa using he
          simp [this]
        rw [e1, hm1] at hoe
        rw [c1] at hce
        cases hce
        exact hoe
      have HCW : Hid (wy.cell? ⟨gr, a, none⟩ = some (.slice (some ⟨ea, 0, none⟩) (m + 1) ca)) := c1
      rw [hje] at c2
      rw [e2] at c3
      have c1 := (HS.out.old.cell (World.block_lt_of_cell? wy _ c1)).trans c1
      have c2 := (HS.out.old.cell (World.block_lt_of_cell? wy _ c2)).trans c2
      have c3 := (HS.out.old.cell (World.block_lt_of_cell? wy _ c3)).trans c3
      have hbnd := HP.out.bound
      have HE : Hid (N[a]? = some e ∧ e.1.length = m + 1 ∧ lastI e.1 = (j' : Int) ∧ e.2 = (u : Int) ∧ L = m + 1) := ⟨he, hm1, hje, e2, hm2⟩
      clear he hm1 hje e2 HOE hml hBr hj'
      have LW : Below w.heap.size w wr := HP.out.below.trans (HS.out.old.mono HP.out.below.size)
      have cb := one_cell ((HS.out.old.block w.heap.size (by have := (Array.getElem?_eq_some_iff.1 HP.out.box).1; exact this)).trans HP.out.box)
      obtain ⟨cb, _⟩ := cb
      rw [HV0.out] at cb
      obtain ⟨vg, voff, hvo, p0, p1, p2⟩ := hcv j' ss[j'] (by simp [hjl])
      have pB := World.block_lt_of_cell? w _ p0
      have p0 := (LW.cell pB).trans p0
      have p1 := (LW.cell (p := ⟨vg, voff + j' * 3 + 1, none⟩) pB).trans p1
      have p2 := (LW.cell (p := ⟨vg, voff + j' * 3 + 2, none⟩) pB).trans p2
      have hjl' : (j' : Int) < (ss.length : Int) := by omega
      have hfs := flw_smalls (c := c) hok hjl
      have hlf := fun W => l7Flow c ss[j'].k ss[j'].x ss[j'].y hc (stm_ok hok hjl) W
      rw [← flw_eq hjl] at hlf
      have hfx : Small ((flw c ss j').getD u 0) := hfs.2 _ (by rw [List.getD_eq_getElem?_getD, List.getElem?_eq_getElem (by rw [hfs.1]; exact hu7)]; exact List.getElem_mem _)
      have HFS : Hid (factsOf c ss e = factsL ((flw c ss j').getD u 0) 7) := by
        show factsOf c ss e = _
        unfold factsOf
        rw [HE.out.2.2.1, HE.out.2.2.2.1]
        rfl
      have hl4 := fun W (hW : Below w.heap.size w W) => l4Next ss j' v W hok hjl (reads3_below hv hW)
      have HLW : Hid _ := LW
      clear LW
      obtain ⟨MM, hMM⟩ : ∃ MM, m + 1 = MM := ⟨_, rfl⟩
      have hMm : (MM : Int) - 1 = (m : Int) := by omega
      have hmM : (m : Int) < (MM : Int) := by omega
      have hM16 : MM ≤ 1600 := by omega
      have hmw : IntKind.i64.wrap (m : Int) = (m : Int) := IntWalk.i64_in _ (by omega)
      have ha0 : (0 : Int) ≤ (a : Int) := by omega
      rw [hMM] at c1
      have HMM : Hid _ := hMM
      have HC1 : Hid _ := c1
      have HC3 : Hid _ := c3
      have HCB : Hid _ := cb
      have HP3 : Hid _ := And.intro p0 (And.intro p1 p2)
      have c1 := cell_regrown c1
      have c2 := cell_regrown c2
      clear hMM hm2 c3 cb p0 p1 p2 hfs hfx hlf hl4
      go_wp2
      refine wp_region_quiet_below (by kernel_rfl) (by kernel_rfl) ?_
      repeat (go_big_quiet_step (fail))
      refine wpQuiet_nil ?_
      intro _ hw'
      obtain ⟨⟨dq, osq⟩, hw''⟩ := hw'
      subst hw''
      have BW := below_regrown wr dq osq
      have S1 : Hid _ := HS.out.below BW
      have k1 := c1 dq osq
      have k3 := (BW.cell (World.block_lt_of_cell? wr _ HC3.out)).trans HC3.out
      have kb := (BW.cell (World.block_lt_of_cell? wr _ HCB.out)).trans HCB.out
      obtain ⟨p0, p1, p2⟩ := HP3.out
      have pB := World.block_lt_of_cell? wr _ p0
      have p0 := (BW.cell pB).trans p0
      have p1 := (BW.cell (p := ⟨vg, voff + j' * 3 + 1, none⟩) pB).trans p1
      have p2 := (BW.cell (p := ⟨vg, voff + j' * 3 + 2, none⟩) pB).trans p2
      have LW1 : Below w.heap.size w (Go.Sort.grow (redrawn wr dq) osq) := HLW.out.trans (BW.mono HLW.out.size)
      have hfs := flw_smalls (c := c) hok hjl
      have hfx : Small ((flw c ss j').getD u 0) := hfs.2 _ (by rw [List.getD_eq_getElem?_getD, List.getElem?_eq_getElem (by rw [hfs.1]; exact hu7)]; exact List.getElem_mem _)
      have hlf := fun W => l7Flow c ss[j'].k ss[j'].x ss[j'].y hc (stm_ok hok hjl) W
      rw [← flw_eq hjl] at hlf
      have h7f := hfs.1
      obtain ⟨fx, hfxe⟩ : ∃ fx, (flw c ss j').getD u 0 = fx := ⟨_, rfl⟩
      rw [hfxe] at hfx
      obtain ⟨fs, hfse⟩ : ∃ fs, flw c ss j' = fs := ⟨_, rfl⟩
      rw [hfse] at hlf h7f hfxe
      have HFX : Hid _ := hfxe
      have hu7' : (u : Int) < 7 := by omega
      obtain ⟨sk, hsk⟩ : ∃ z, ss[j'].k = z := ⟨_, rfl⟩
      obtain ⟨sx, hsx⟩ : ∃ z, ss[j'].x = z := ⟨_, rfl⟩
      obtain ⟨sy, hsy⟩ : ∃ z, ss[j'].y = z := ⟨_, rfl⟩
      rw [hsk] at p0 hlf
      rw [hsx] at p1 hlf
      rw [hsy] at p2 hlf
      have FSE : Hid _ := hfse
      subst hvo
      clear c1 c2 BW HC1 HC3 HCB HP3 HLW hfs hfxe hfse hsk hsx hsy pB
      go_wp2_with fail
      generalize Go.Sort.grow (redrawn wr dq) osq = w1 at *
      refine wp_region_held_drew (S := fun w' => w'.cell? ⟨w.heap.size, 0, none⟩ = some (.slice (some ⟨vg, voff, none⟩) ss.length vc) ∧ w'.cell? ⟨vg, voff + j' * 3, none⟩ = some (.int .i64 sk) ∧ w'.cell? ⟨vg, voff + j' * 3 + 1, none⟩ = some (.int .i64 sx) ∧ w'.cell? ⟨vg, voff + j' * 3 + 2, none⟩ = some (.int .i64 sy) ∧ w'.cell? ⟨gf, a, none⟩ = some (.int .i64 (u : Int))) (by kernel_rfl) ⟨kb, p0, p1, p2, k3⟩ (fun hHeld => ?_)
      refine wpAnyH_take (i := 0) (oi := ?oir0) (v := .int .i64 c) ?hir0 (by kernel_rfl) (by kernel_rfl) (by kernel_rfl) ?hqr0 ?hyr0 hHeld ?hrr0
      case hir0 =>
        simp only [List.getElem?_toArray, List.getElem?_cons_succ, List.getElem?_cons_zero]
        rfl
      case hqr0 => exact fun _ _ _ h => HQP.out _ _ _ _ _ h
      case hyr0 => exact Or.inl ⟨by kernel_rfl, fun w hSw => by go_simp⟩
      try simp only [Act.put, List.setIfInBounds_toArray, List.set_cons_zero, List.set_cons_succ]
      refine wpAnyH_take (i := 1) (oi := ?oir1) (v := .pointer (some ⟨w.heap.size, 0, none⟩)) ?hir1 (by kernel_rfl) (by kernel_rfl) (by kernel_rfl) ?hqr1 ?hyr1 hHeld ?hrr1
      case hir1 =>
        simp only [List.getElem?_toArray, List.getElem?_cons_succ, List.getElem?_cons_zero]
        rfl
      case hqr1 => exact fun _ _ _ h => HQP.out _ _ _ _ _ h
      case hyr1 => exact Or.inl ⟨by kernel_rfl, fun w hSw => by go_simp⟩
      try simp only [Act.put, List.setIfInBounds_toArray, List.set_cons_zero, List.set_cons_succ]
      refine wpAnyH_take (i := 2) (oi := ?oir2) (v := .slice (some ⟨vg, voff, none⟩) ss.length vc) ?hir2 (by kernel_rfl) (by kernel_rfl) (by kernel_rfl) ?hqr2 ?hyr2 hHeld ?hrr2
      case hir2 =>
        simp only [List.getElem?_toArray, List.getElem?_cons_succ, List.getElem?_cons_zero]
        rfl
      case hqr2 => exact fun _ _ _ h => HQP.out _ _ _ _ _ h
      case hyr2 => exact Or.inl ⟨by kernel_rfl, fun w hSw => by obtain ⟨s1, s2, s3, s4, s5⟩ := hSw; go_simp⟩
      try simp only [Act.put, List.setIfInBounds_toArray, List.set_cons_zero, List.set_cons_succ]
      refine wpAnyH_take (i := 3) (oi := ?oir3) (v := .int .i64 (j' : Int)) ?hir3 (by kernel_rfl) (by kernel_rfl) (by kernel_rfl) ?hqr3 ?hyr3 hHeld ?hrr3
      case hir3 =>
        simp only [List.getElem?_toArray, List.getElem?_cons_succ, List.getElem?_cons_zero]
        rfl
      case hqr3 => exact fun _ _ _ h => HQP.out _ _ _ _ _ h
      case hyr3 => exact Or.inl ⟨by kernel_rfl, fun w hSw => by go_simp⟩
      try simp only [Act.put, List.setIfInBounds_toArray, List.set_cons_zero, List.set_cons_succ]
      refine wpAnyH_take (i := 4) (oi := ?oir4) (v := .pointer (some ⟨vg, voff + j' * 3, none⟩)) ?hir4 (by kernel_rfl) (by kernel_rfl) (by kernel_rfl) ?hqr4 ?hyr4 hHeld ?hrr4
      case hir4 =>
        simp only [List.getElem?_toArray, List.getElem?_cons_succ, List.getElem?_cons_zero]
        rfl
      case hqr4 => exact fun _ _ _ h => HQP.out _ _ _ _ _ h
      case hyr4 => exact Or.inl ⟨by kernel_rfl, fun w hSw => by go_simp⟩
      try simp only [Act.put, List.setIfInBounds_toArray, List.set_cons_zero, List.set_cons_succ]
      refine wpAnyH_take (i := 5) (oi := ?oir5) (v := .agg #[.int .i64 sk, .int .i64 sx, .int .i64 sy]) ?hir5 (by kernel_rfl) (by kernel_rfl) (by kernel_rfl) ?hqr5 ?hyr5 hHeld ?hrr5
      case hir5 =>
        simp only [List.getElem?_toArray, List.getElem?_cons_succ, List.getElem?_cons_zero]
        rfl
      case hqr5 => exact fun _ _ _ h => HQP.out _ _ _ _ _ h
      case hyr5 => exact Or.inl ⟨by kernel_rfl, fun w hSw => by obtain ⟨s1, s2, s3, s4, s5⟩ := hSw; go_simp⟩
      try simp only [Act.put, List.setIfInBounds_toArray, List.set_cons_zero, List.set_cons_succ]
      refine wpAnyH_take (i := 7) (oi := ?oir7) (v := .slice (some ⟨gf, 0, none⟩) N.length cf) ?hir7 (by kernel_rfl) (by kernel_rfl) (by kernel_rfl) ?hqr7 ?hyr7 hHeld ?hrr7
      case hir7 =>
        simp only [List.getElem?_toArray, List.getElem?_cons_succ, List.getElem?_cons_zero]
        rfl
      case hqr7 => exact fun _ _ _ h => HQP.out _ _ _ _ _ h
      case hyr7 => exact Or.inl ⟨by kernel_rfl, fun w hSw => by go_simp⟩
      try simp only [Act.put, List.setIfInBounds_toArray, List.set_cons_zero, List.set_cons_succ]
      refine wpAnyH_take (i := 8) (oi := ?oir8) (v := .int .i64 (a : Int)) ?hir8 (by kernel_rfl) (by kernel_rfl) (by kernel_rfl) ?hqr8 ?hyr8 hHeld ?hrr8
      case hir8 =>
        simp only [List.getElem?_toArray, List.getElem?_cons_succ, List.getElem?_cons_zero]
        rfl
      case hqr8 => exact fun _ _ _ h => HQP.out _ _ _ _ _ h
      case hyr8 => exact Or.inl ⟨by kernel_rfl, fun w hSw => by go_simp⟩
      try simp only [Act.put, List.setIfInBounds_toArray, List.set_cons_zero, List.set_cons_succ]
      refine wpAnyH_take (i := 9) (oi := ?oir9) (v := .pointer (some ⟨gf, a, none⟩)) ?hir9 (by kernel_rfl) (by kernel_rfl) (by kernel_rfl) ?hqr9 ?hyr9 hHeld ?hrr9
      case hir9 =>
        simp only [List.getElem?_toArray, List.getElem?_cons_succ, List.getElem?_cons_zero]
        rfl
      case hqr9 => exact fun _ _ _ h => HQP.out _ _ _ _ _ h
      case hyr9 => exact Or.inl ⟨by kernel_rfl, fun w hSw => by go_simp⟩
      try simp only [Act.put, List.setIfInBounds_toArray, List.set_cons_zero, List.set_cons_succ]
      refine wpAnyH_take (i := 10) (oi := ?oir10) (v := .int .i64 (u : Int)) ?hir10 (by kernel_rfl) (by kernel_rfl) (by kernel_rfl) ?hqr10 ?hyr10 hHeld ?hrr10
      case hir10 =>
        simp only [List.getElem?_toArray, List.getElem?_cons_succ, List.getElem?_cons_zero]
        rfl
      case hqr10 => exact fun _ _ _ h => HQP.out _ _ _ _ _ h
      case hyr10 => exact Or.inl ⟨by kernel_rfl, fun w hSw => by obtain ⟨s1, s2, s3, s4, s5⟩ := hSw; go_simp⟩
      try simp only [Act.put, List.setIfInBounds_toArray, List.set_cons_zero, List.set_cons_succ]
      refine wpAnyH_ready (rs := [6]) (by kernel_rfl) (by simp) ?_
      refine (AllReadyH.cons (o := ?oor6) ?hor6 (fun K hK => ?hkr6) AllReadyH.nil)
      case hor6 =>
        simp only [List.getElem?_toArray, List.getElem?_cons_succ, List.getElem?_cons_zero]
        rfl
      case hkr6 =>
        go_simp
        go_at_call 27
        refine (hlf w1.drew).mono ?_
        rintro e9 w2 ⟨B, rfl, hB3, i3, b3⟩
        have B2 : Hid (Below w1.heap.size w1 w2) := (Below.drew (Below.refl w1.heap.size w1)).trans b3
        have I2 : Hid (IntAt w2 B fs) := i3
        obtain ⟨q2, _⟩ := i3.cell u (by omega)
        rw [HFX.out] at q2
        clear i3 b3
        try go_wp2_with fail
        refine hK.out _ _ ⟨(B2.out.cell (World.block_lt_of_cell? w1 _ kb)).trans kb, (B2.out.cell (World.block_lt_of_cell? w1 _ p0)).trans p0, (B2.out.cell (World.block_lt_of_cell? w1 _ p1)).trans p1, (B2.out.cell (World.block_lt_of_cell? w1 _ p2)).trans p2, (B2.out.cell (World.block_lt_of_cell? w1 _ k3)).trans k3⟩ (fun hHeld => ?_)
        clear hK K
        try simp only [Act.put, List.setIfInBounds_toArray, List.set_cons_zero, List.set_cons_succ]
        refine wpAnyH_take (i := 11) (oi := ?oir11) (v := .pointer (some ⟨B, u, none⟩)) ?hir11 (by kernel_rfl) (by kernel_rfl) (by kernel_rfl) ?hqr11 ?hyr11 hHeld ?hrr11
        case hir11 =>
          simp only [List.getElem?_toArray, List.getElem?_cons_succ, List.getElem?_cons_zero]
          rfl
        case hqr11 => exact fun _ _ _ h => HQP.out _ _ _ _ _ h
        case hyr11 => exact Or.inl ⟨by kernel_rfl, fun w hSw => by go_simp⟩
        try simp only [Act.put, List.setIfInBounds_toArray, List.set_cons_zero, List.set_cons_succ]
        refine wpAnyH_ready (rs := [12]) (by kernel_rfl) (by simp) ?_
        refine (AllReadyH.cons (o := ?oor12) ?hor12 (fun K hK => ?hkr12) AllReadyH.nil)
        case hor12 =>
          simp only [List.getElem?_toArray, List.getElem?_cons_succ, List.getElem?_cons_zero]
          rfl
        case hkr12 =>
          go_simp
          try go_wp2_with fail
          refine hK.out _ _ hHeld (fun hHeld => ?_)
          clear hK K
          try simp only [Act.put, List.setIfInBounds_toArray, List.set_cons_zero, List.set_cons_succ]
          refine wpAnyH_ready (rs := [13]) (by kernel_rfl) (by simp) ?_
          refine (AllReadyH.cons (o := ?oor13) ?hor13 (fun K hK => ?hkr13) AllReadyH.nil)
          case hor13 =>
            simp only [List.getElem?_toArray, List.getElem?_cons_succ, List.getElem?_cons_zero]
            rfl
          case hkr13 =>
            go_simp
            go_at_call 25
            refine (l8Facts fx hfx w2).mono ?_
            rintro e9 w3 ⟨fv, rfl, of3, b4⟩
            have B3 : Hid (Below w1.heap.size w1 w3) := B2.out.trans (b4.mono B2.out.size)
            have OF3 : Hid (w3.ownsRow w1.heap.size 2 1 fv (factsL fx 7).length (ints (factsL fx 7))) := own_mono of3 B2.out.size
            clear of3 b4
            try go_wp2_with fail
            refine hK.out _ _ ⟨(B3.out.cell (World.block_lt_of_cell? w1 _ kb)).trans kb, (B3.out.cell (World.block_lt_of_cell? w1 _ p0)).trans p0, (B3.out.cell (World.block_lt_of_cell? w1 _ p1)).trans p1, (B3.out.cell (World.block_lt_of_cell? w1 _ p2)).trans p2, (B3.out.cell (World.block_lt_of_cell? w1 _ k3)).trans k3⟩ (fun hHeld => ?_)
            clear hK K
            try simp only [Act.put, List.setIfInBounds_toArray, List.set_cons_zero, List.set_cons_succ]
            refine wpAnyH_take (i := 14) (oi := ?oir14) (v := fv) ?hir14 (by kernel_rfl) (by kernel_rfl) (by kernel_rfl) ?hqr14 ?hyr14 hHeld ?hrr14
            case hir14 =>
              simp only [List.getElem?_toArray, List.getElem?_cons_succ, List.getElem?_cons_zero]
              rfl
            case hqr14 => exact fun _ _ _ h => HQP.out _ _ _ _ _ h
            case hyr14 => exact Or.inl ⟨by kernel_rfl, fun w hSw => by go_simp⟩
            try simp only [Act.put, List.setIfInBounds_toArray, List.set_cons_zero, List.set_cons_succ]
            refine wpAnyH_done (by kernel_rfl) ?_ _
            have kb3 := (B3.out.cell (World.block_lt_of_cell? w1 _ kb)).trans kb
            have LW3 : Below w.heap.size w w3 := LW1.trans (B3.out.mono LW1.size)
            have hl4 := l4Next ss j' (.slice (some ⟨vg, voff, none⟩) ss.length vc) w3 hok hjl (reads3_below (by rw [← HV0.out]; exact hv) LW3)
            rw [nxI hjl] at hl4
            have hylen := nx_two ss j'
            have hyin := nx_in hok hjl
            obtain ⟨ys, hys⟩ : ∃ ys, nx ss j' = ys := ⟨_, rfl⟩
            rw [hys] at hl4 hylen hyin
            have HYS : Hid (∀ y ∈ ys, ∃ i : Nat, y = (i : Int) ∧ i < ss.length) := hyin
            have hflen := factsL_len fx 7
            have hfin : ∀ x ∈ factsL fx 7, ∃ t : Nat, t < 7 ∧ x = (t : Int) := fun x hx => by
              obtain ⟨t, h1, h2, _⟩ := mem_factsL.1 hx
              exact ⟨t, h1, h2⟩
            have HNI : Hid (nx ss (lastI e.1).toNat = ys ∧ factsOf c ss e = factsL fx 7) := ⟨by rw [HE.out.2.2.1]; exact hys, by rw [HFS.out, ← HFX.out, FSE.out]⟩
            obtain ⟨Fs, hFs⟩ : ∃ Fs, factsL fx 7 = Fs := ⟨_, rfl⟩
            have OF3' : w3.ownsRow w1.heap.size 2 1 fv (factsL fx 7).length (ints (factsL fx 7)) := OF3.out
            rw [hFs] at hflen hfin HNI OF3'
            have HFM2 : Hid (∀ x ∈ Fs, ∃ t : Nat, t < 7 ∧ x = (t : Int)) := hfin
            obtain ⟨fo, fc, hfv⟩ : ∃ a cp, fv = .slice a Fs.length cp := by
              have := OF3'.1
              rcases OF3'.2 with ⟨e, e2⟩ | ⟨g, cap, cur, e, _⟩
              · exact ⟨none, 0, by rw [e]; simp at e2; rw [e2]; rfl⟩
              · exact ⟨_, _, e⟩
            subst hfv
            have HOF : Hid _ := OF3'
            have SM : Hid (∀ k, Small (seen.getD k 0)) := HP.out.small
            clear hys hyin hfin hFs OF3' OF3 p0 p1 p2 k1 k3 hlf HFS HFX FSE hfx h7f q2 I2
            go_wp2_with fail
            go_at_call 28
            refine hl4.mono ?_
            rintro e9 w4 ⟨gy, cy, rfl, oy4, b5⟩
            have B4 : Below w1.heap.size w1 w4 := B3.out.trans (b5.mono B3.out.size)
            have HSF : Hid _ := S1.out.enter B4
            have HFV : Hid (w4.ownsRow w1.heap.size 2 1 (.slice fo Fs.length fc) Fs.length (ints Fs)) := own_kept HOF.out b5
            have HYV : Hid (w4.ownsRow w1.heap.size 2 1 (.slice (some ⟨gy, 0, none⟩) ys.length cy) ys.length (ints ys)) := own_mono oy4 B3.out.size
            have hgyl := oy4.lt gy rfl
            have hs13 := B3.out.size
            have hgy0 : w1.heap.size ≤ gy := by omega
            have hgy1 : gy < w4.heap.size := hgyl.2
            obtain ⟨F0, hF0⟩ : ∃ z, w1.heap.size = z := ⟨_, rfl⟩
            obtain ⟨F1, hF1⟩ : ∃ z, w4.heap.size = z := ⟨_, rfl⟩
            rw [hF0, hF1] at HSF
            rw [hF0] at HFV HYV hgy0
            rw [hF1] at hgy1
            clear hgyl hs13 hl4 oy4 b5 B4 HOF hF0 kb kb3 LW1 LW3 S1 HS
            go_wp2_with fail
            go_loopw [18, 19, 24] (fun nv mv kv wq => ∃ (b : Nat) (M2 : List Itm) (gn2 cn2 gm2 cm2 : Nat) (us3 : List Value), b ≤ ys.length ∧ kv = .int .i64 b ∧ nv = .slice (some ⟨gn2, 0, none⟩) M2.length cn2 ∧ mv = .slice (some ⟨gm2, 0, none⟩) M2.length cm2 ∧ NS wy w4 F0 F1 M2 gn2 cn2 gm2 cm2 us3 wq ∧ MinOf (fun z => FI c ss seen (N.take a) z ∨ FK seen e (ys.take b) Fs z) M2) (fun _ _ kv _ => ys.length - (intOf kv).toNat)
            case atStart => exact ⟨0, M, gn, cn, gm, cm, us2, Nat.zero_le _, rfl, rfl, rfl, HSF.out, minK_start HM.out⟩
            case round =>
              obtain ⟨b, M2, gn2, cn2, gm2, cm2, us3, hb, rfl, rfl, rfl, hS2, hM2⟩ := hrel
              have HS2 : Hid _ := hS2
              have HM2 : Hid _ := hM2
              clear hS2 hM2 HSF HM
              by_cases hlb : b < ys.length
              · have hlb' : (b : Int) < (ys.length : Int) := by omega
                have hb0 : (0 : Int) ≤ (b : Int) := by omega
                obtain ⟨yn, hyn, hynl⟩ := HYS.out ys[b] (List.getElem_mem hlb)
                have hynl' : (yn : Int) < (ss.length : Int) := by omega
                have hyn0 : (0 : Int) ≤ (yn : Int) := by omega
                have HYN : Hid (ys[b] = (yn : Int)) := hyn
                have HCY : Hid (w4.cell? ⟨gy, b, none⟩ = some (.int .i64 (yn : Int))) := by
                  show w4.cell? _ = _
                  rw [HYV.out.cellAt b (by omega)]
                  simp [ints, hlb, hyn]
                clear hyn
                go_wp2_with fail
                refine jLoop ss c s i t v w hok h12 G L N seen gr cr gf cf us wy HP hnl hN2 a ha0 hla hla' e ea m ca MM j' u HE HMM hM16 HEO HCW ys Fs hylen hflen HYS HFM2 SM w4 F0 F1 gy cy fo fc hF1 hgy0 hgy1 HFV b yn hb0 hlb hlb' hynl hynl' hyn0 HCY M2 gn2 cn2 gm2 cm2 us3 _ HS2 HM2 (fun x a d y w h => HQP.out x a d y w h) ?_
                intro M3 gn3 cn3 gm3 cm3 us4 wq x26 x27 x28 x186 x187 x188 x189 x190 x191 x192 x193 x194 x195 x196 x197 x198 x199 x200 x201 x202 x203 x204 x205 x206 x207 x208 x209 x210 x211 x212 x213 x214 x215 x216 x217 x218 x219 x220 x221 x222 x223 x224 x225 x226 x227 x228 x229 x230 x231 x232 x233 x234 x235 x236 x237 x238 x239 x240 x241 x242 x243 x244 x245 x246 x247 x248 x249 x250 x251 x252 x253 x254 x255 x256 x257 x258 x259 x260 x261 x262 x263 x264 x265 x266 x267 x268 x269 x270 x271 x272 x273 x274 x275 x276 hS3 hM3
                have HS3 : Hid _ := hS3
                have HM3 : Hid _ := hM3
                clear hS3 hM3 HS2 HM2
                go_wp2
                go_roundw
                case rel => exact ⟨b + 1, M3, gn3, cn3, gm3, cm3, us4, by omega, by go_num, rfl, rfl, HS3.out, minJ_end hlb HYN.out HM3.out⟩
                case measure => simp [intOf]; omega
              · obtain rfl : b = ys.length := by omega
                have hge2 : ¬ (ys.length : Int) < (ys.length : Int) := by omega
                go_wp2
                go_roundw
                case rel => exact ⟨a + 1, M2, gn2, cn2, gm2, cm2, us3, by omega, by go_num, rfl, rfl, HS2.out.leave, minK_end hla HE.out.1 HNI.out.1 HNI.out.2 HM2.out⟩
                case measure => simp [intOf]; omega
    · obtain rfl : a = N.length := by omega
      have hge : ¬ (N.length : Int) < (N.length : Int) := by omega
      go_wp2
      exact HX.out _ _ _ _ _ _ _ _ _ _ _ _ _ _ _ _ _ _ _ _ _ _ _ _ _ _ _ _ _ _ _ _ _ _ _ _ _ _ _ _ _ _ _ _ _ _ _ _ _ _ _ _ _ _ _ _ _ _ _ _ _ _ _ _ _ _ _ _ _ _ _ _ _ _ _ _ _ _ _ _ _ _ _ _ _ _ _ _ _ _ _ _ _ _ _ _ _ _ _ _ _ _ _ _ _ _ _ _ _ _ _ _ _ _ _ _ _ _ _ _ _ _ _ _ _ _ _ _ _ _ _ _ _ _ _ _ _ _ _ _ _ _ _ _ _ _ _ HS.out HM.out

end Go.Proofs.Ytciccbbgamklbaa

/-
  spec.Proof, at right inputs.
-/
namespace Go.Proofs.Ytciccbbgamklbaa
open Go.RowKit
set_option linter.unusedVariables false
set_option linter.unusedSimpArgs false
set_option maxHeartbeats 4000000
set_option maxRecDepth 20000

theorem specProofY (ss : List Stm) (c s : Int) (i t : Nat) (hok : procOk ss = true) (hil : i < ss.length) (ht7 : t < 7) (hic : isCl c = true) (hs : inB s 0 127 = true) (v : Value) (w : World) (hl : ss.length ≤ maxLen) (hv : Reads3 w v ss) :
    Calls Try.prog 6 #[.agg #[v], .int .i64 c, .int .i64 s, .int .i64 i, .int .i64 t] w fun e w' => ∃ A u, IsProof c ss s i t A ∧ A.length ≤ 2000 ∧ e = .returned u ∧ w'.ownsRow w.heap.size 2 1 u A.length (ints A) ∧ Below w.heap.size w w' := by
  obtain ⟨W0, hW0⟩ : ∃ W0, w.alloc (.cells #[v] 30) = W0 := ⟨_, rfl⟩
  have hb0 : Below w.heap.size w W0 := by rw [← hW0]; go_grown
  have z0 : W0.heap.size = w.heap.size + 1 := by rw [← hW0]; simp
  have X0 : W0.heap[w.heap.size]? = some (.cells #[v] 30 (0, 0)) := by rw [← hW0]; exact heap_alloc_new w _
  have HW : Hid (w.alloc (.cells #[v] 30) = W0) := hW0
  clear hW0
  have he := l4In ss i v W0 hl (reads3_below hv hb0)
  have hhs : hasS ss (i : Int) = true := by unfold hasS wiB; rw [hok]; simp; omega
  rw [hhs] at he
  have hcl : ∀ W, Calls Try.prog 23 #[.int .i64 c] W (fun e w' => e = .returned (.bool true) ∧ W = w') := fun W => hic ▸ l7Client c W
  have hin := fun W => l1In s 0 127 W
  rw [hs] at hin
  have hit := fun W => l1In (t : Int) 0 6 W
  have ht6 : inB (t : Int) 0 6 = true := by simp [inB]; omega
  rw [ht6] at hit
  have hsm := small_in.1 hs
  have hc : c = 1 ∨ c = 2 := by simpa [isCl] using hic
  obtain ⟨h1s, h12, _⟩ := procOk_parts hok
  have hfa := fun W => l8Facts s hsm W
  obtain ⟨i0, hi0, hz0, hz1, hz2⟩ := info_parts infoInt
  have hb8 : i0.bytes * ss.length ≤ 281474976710656 := by rw [hz2]; omega
  have hmx : ss.length ≤ maxLen := by unfold maxLen; omega
  have hp0 : (0 : Int) < (ss.length : Int) := by omega
  go_enter Try.func6, Try.ntmps6
  go_wp2_with fail
  go_at_call 22
  rw [HW.out]
  refine he.mono ?_
  rintro e w2 ⟨rfl, b2⟩
  have L2 := hb0.trans (b2.mono hb0.size)
  have s2 := b2.size
  have X2 := (b2.block _ (by omega)).trans X0
  obtain ⟨c0, f0⟩ := one_cell X2
  obtain ⟨vo, vc, hv0, hcv⟩ := id hv
  have HV0 : Hid _ := hv0
  rw [hv0] at c0
  clear he hhs hv0 HW ht6 hs hic
  go_wp2_with fail
  go_at_call 23
  refine (hcl _).mono ?_
  rintro e w3 ⟨rfl, rfl⟩
  clear hcl
  go_wp2_with fail
  go_at_call 24
  refine (hin _).mono ?_
  rintro e w3 ⟨rfl, rfl⟩
  clear hin
  go_wp2_with fail
  go_at_call 24
  refine (hit _).mono ?_
  rintro e w3 ⟨rfl, rfl⟩
  clear hit
  go_wp2_with (at_make; refine wpList_make_full _ rfl _ _ 26 rfl (w.heap.size + 1) 2 i0 (.int .i64 0) 1 Try.underlying26 hi0 hz0 hz1 .i64 .i64 (ss.length : Int) (ss.length : Int) ss.length rfl rfl rfl rfl hb8 hmx (by omega) ?_; intro w6 own6 grow6)
  have grow6' := grow6
  have L6 : Below w.heap.size w w6 := L2.grown grow6 L2.size (by simp)
  have z6 : w2.heap.size ≤ w6.heap.size := grow6.size
  have X6 := (grow6.block _ (by omega) (by simp)).trans X2
  have i6 := intAt_made own6
  obtain ⟨ou0, olt⟩ : w2.heap.size < w6.heap.size ∧ True := ⟨(own6.lt _ rfl).2, trivial⟩
  clear own6 c0 f0
  go_at_call 25
  refine (hfa _).mono ?_
  rintro e w7 ⟨u, rfl, ou, b7⟩
  go_wp2_with fail
  obtain ⟨i1, hjS, hy0, hy1, hy2⟩ := info_parts infoSlice
  obtain ⟨G, hG⟩ : ∃ G, w2.heap.size = G := ⟨_, rfl⟩
  have s7 := b7.size
  have e7 : ((w6.alloc (.cells #[] 26)).alloc (.cells #[] 2)).heap.size = w6.heap.size + 2 := by simp
  rw [e7] at ou b7 s7
  have B7 : Below w6.heap.size w6 ((w6.alloc (.cells #[] 26)).alloc (.cells #[] 2)) := by go_grown
  have N6 : PN (G + 1) (.slice (some ⟨w6.heap.size, 0, none⟩) 0 0) [] [] (.slice (some ⟨w6.heap.size + 1, 0, none⟩) 0 0) [] ((w6.alloc (.cells #[] 26)).alloc (.cells #[] 2)) := by
    have z : (w6.alloc (.cells #[] 26)).heap.size = w6.heap.size + 1 := by simp
    refine ⟨((made0S w6).mono (by omega)).below (by go_grown), ?_, by simp⟩
    have := made0 (w6.alloc (.cells #[] 26))
    rw [z] at this
    exact own_mono this (by omega)
  have N7 := N6.below (by rw [e7]; exact b7)
  have L7 : Below w.heap.size w w7 := L6.trans ((B7.trans (b7.mono (by omega))).mono L6.size)
  have i7 : IntAt w7 G (List.replicate ss.length 0) := by
    rw [hG] at i6
    exact ((b7.block G (by omega)).trans (B7.block G (by omega))).trans i6
  have X7 := ((b7.block w.heap.size (by omega)).trans (B7.block w.heap.size (by omega))).trans X6
  have hFl := factsL_len s 7
  have hFm : ∀ x ∈ factsL s 7, ∃ t : Nat, t < 7 ∧ x = (t : Int) ∧ bit s t = true := fun x hx => mem_factsL.1 hx
  have HFM : Hid _ := hFm
  clear hFm
  obtain ⟨F, hF⟩ : ∃ F, factsL s 7 = F := ⟨_, rfl⟩
  rw [hF] at ou hFl HFM
  have HF : Hid _ := hF
  obtain ⟨uo, uc, hu⟩ : ∃ a cp, u = .slice a F.length cp := by
    have := ou.1
    rcases ou.2 with ⟨e, e2⟩ | ⟨g, cap, cur, e, _⟩
    · exact ⟨none, 0, by rw [e]; simp at e2; rw [e2]; rfl⟩
    · exact ⟨_, _, e⟩
  subst hu
  have hGw : w.heap.size < G := by omega
  have ulow : ∀ k, (Value.slice uo F.length uc).ownBlock = some k → w6.heap.size + 2 ≤ k := fun k hk => (ou.lt k hk).1
  have ou7 : w7.ownsRow (G + 1) 2 1 (.slice uo F.length uc) F.length (ints F) := own_mono ou (by omega)
  have uap : ∀ k, (Value.slice uo F.length uc).ownBlock = some k → (Value.slice (some ⟨w6.heap.size + 1, 0, none⟩) 0 0).ownBlock ≠ some k := fun k hk e => by
    have := ulow k hk
    simp [Value.ownBlock] at e
    omega
  rw [hG]
  have ST0 : Hid (∃ (us : List Value), PN (G + 1) (.slice (some ⟨w6.heap.size, 0, none⟩) 0 0) us (List.replicate 0 [0]) (.slice (some ⟨w6.heap.size + 1, 0, none⟩) 0 0) (F.take 0) w7 ∧ IntAt w7 G (seeN (List.replicate ss.length 0) ((F.take 0).map (fun t => ([0], t)))) ∧ Below w.heap.size w w7 ∧ w7.heap[w.heap.size]? = some (.cells #[v] 30 (0, 0)) ∧ w7.ownsRow (G + 1) 2 1 (.slice uo F.length uc) F.length (ints F) ∧ ∀ k, (Value.slice uo F.length uc).ownBlock = some k → (Value.slice (some ⟨w6.heap.size + 1, 0, none⟩) 0 0).ownBlock ≠ some k) := ⟨[], N7, i7, L7, X7, ou7, uap⟩
  clear N6 N7 i6 i7 X6 X7 L6 L7 b7 B7 ou ou7 uap ulow hF grow6 grow6' hfa X0 X2 b2 hb0 s2 z0 L2 s7 e7 z6 ou0 olt
  go_loopw [12, 13, 15] (fun rv fv iv wr => ∃ (k gr cr gf cf : Nat) (us : List Value), k ≤ F.length ∧ iv = .int .i64 k ∧ rv = .slice (some ⟨gr, 0, none⟩) k cr ∧ fv = .slice (some ⟨gf, 0, none⟩) k cf ∧
      PN (G + 1) (.slice (some ⟨gr, 0, none⟩) k cr) us (List.replicate k [0]) (.slice (some ⟨gf, 0, none⟩) k cf) (F.take k) wr ∧ IntAt wr G (seeN (List.replicate ss.length 0) ((F.take k).map (fun t => ([0], t)))) ∧ Below w.heap.size w wr ∧ wr.heap[w.heap.size]? = some (.cells #[v] 30 (0, 0)) ∧ wr.ownsRow (G + 1) 2 1 (.slice uo F.length uc) F.length (ints F) ∧ ∀ j, (Value.slice uo F.length uc).ownBlock = some j → gf ≠ j) (fun _ _ iv _ => F.length - (intOf iv).toNat)
  case atStart =>
    obtain ⟨us, h1, h2, h3, h4, h5, h6⟩ := ST0.out
    exact ⟨0, w6.heap.size, 0, w6.heap.size + 1, 0, us, Nat.zero_le _, rfl, rfl, rfl, h1, h2, h3, h4, h5, fun j hj e => h6 j hj (by simp [Value.ownBlock, e])⟩
  case round =>
    obtain ⟨k, gr, cr, gf, cf, us, hk, rfl, rfl, rfl, h1, h2, h3, h4, h5, h6⟩ := hrel
    clear ST0
    by_cases hlt : k < F.length
    · have hlt' : (k : Int) < (F.length : Int) := by omega
      obtain ⟨gu, uc', hu2, q1, q2⟩ := h5.form (by omega)
      have hue : uo = some ⟨gu, 0, none⟩ := by cases hu2; rfl
      obtain ⟨t0, ht0, hFk, hbs⟩ := HFM.out F[k] (List.getElem_mem hlt)
      have cu : wr.cell? ⟨gu, k, none⟩ = some (.int .i64 (t0 : Int)) := by
        rw [hue] at h5
        rw [h5.cellAt k (by omega)]
        simp [ints, hlt, hFk]
      have hgub : (Value.slice uo F.length uc).ownBlock = some gu := by rw [hue]; rfl
      subst hue
      have hown : wr.ownsRow (G + 1) 26 1 (.slice (some ⟨gr, 0, none⟩) k cr) k us := by simpa using h1.row.row
      have hszw : G + 1 ≤ wr.heap.size := h2.lt
      have bW1 : Below wr.heap.size wr ((wr.alloc (.cells #[.int .i64 0] 2)).alloc (.cells #[.slice (some ⟨wr.heap.size, 0, none⟩) 1 1] 26)) := by go_grown
      have zW1 : ((wr.alloc (.cells #[.int .i64 0] 2)).alloc (.cells #[.slice (some ⟨wr.heap.size, 0, none⟩) 1 1] 26)).heap.size = wr.heap.size + 2 := by simp
      have n1 := h1.below bW1
      have u1 := own_kept h5 bW1
      have w1o : ((wr.alloc (.cells #[.int .i64 0] 2)).alloc (.cells #[.slice (some ⟨wr.heap.size, 0, none⟩) 1 1] 26)).ownsRow (G + 1) 2 1 (.slice (some ⟨wr.heap.size, 0, none⟩) 1 1) 1 (ints [0]) := (made1_at rfl hszw 0).alloc _
      have nb : World.grownBy _ _ none := grown_of_below bW1 none
      have HN1 : Hid _ := n1
      have HU1 : Hid _ := u1
      have HW1 : Hid _ := w1o
      have HB1 : Hid _ := bW1
      have hk7 : k < 7 := by omega
      have hIN := h2
      have hBL := h3
      have hBX := h4
      have grlt := hown.lt gr rfl
      have hgfl := h1.fac.lt gf rfl
      have hug : gu ≠ gr := fun e => row_kind h5 hown (by decide) hgub (by rw [e]; rfl)
      have huf : gf ≠ gu := h6 gu hgub
      have hgul := h5.lt gu hgub
      have hFlen : (F.take k).length = k := by simp; omega
      have hFsucc : F.take (k + 1) = F.take k ++ [(t0 : Int)] := by rw [List.take_succ_eq_append_getElem hlt, hFk]
      have HFS : Hid _ := hFsucc
      have hpow : (1 : Int) * 2 ^ t0 ≤ 64 ∧ (1 : Int) ≤ 2 ^ t0 := by
        have hc : t0 = 0 ∨ t0 = 1 ∨ t0 = 2 ∨ t0 = 3 ∨ t0 = 4 ∨ t0 = 5 ∨ t0 = 6 := by omega
        rcases hc with rfl | rfl | rfl | rfl | rfl | rfl | rfl <;> decide
      have hu64 : IntKind.u64.wrap (t0 : Int) = (t0 : Int) := by
        have hc : t0 = 0 ∨ t0 = 1 ∨ t0 = 2 ∨ t0 = 3 ∨ t0 = 4 ∨ t0 = 5 ∨ t0 = 6 := by omega
        rcases hc with rfl | rfl | rfl | rfl | rfl | rfl | rfl <;> rfl
      have HFL : Hid _ := hFlen
      have HALL : Hid (Below w.heap.size w wr ∧ wr.heap[w.heap.size]? = some (.cells #[v] 30 (0, 0)) ∧ wr.ownsRow (G + 1) 2 1 (.slice (some ⟨gu, 0, none⟩) F.length uc) F.length (ints F) ∧ ∀ j, (Value.slice (some ⟨gu, 0, none⟩) F.length uc).ownBlock = some j → gf ≠ j) := ⟨h3, h4, h5, h6⟩
      have HIN : Hid _ := h2
      clear n1 u1 w1o bW1 nb hu2 hFsucc hFlen h3 h4 h5 h6 h2 hIN hBL hBX h1 hFk
      go_wp2_with (first
        | (at_builtin; refine wpList_append_lies _ rfl (.tmp 65) (.tmp 67) 45 rfl (G + 1) 26 i1 (.slice none 0 0) 1 24 Try.underlying45 hjS hy0 hy1 hy2 rfl (by decide) _ k us rfl (own_kept hown HB1.out) ⟨wr.heap.size + 1, 0, none⟩ 1 1 [.slice (some ⟨wr.heap.size, 0, none⟩) 1 1] rfl rfl (by have := World.news_of_block (heap_alloc_new (wr.alloc (.cells #[.int .i64 0] 2)) (.cells #[.slice (some ⟨wr.heap.size, 0, none⟩) 1 1] 26)); simpa using this) (by intro y hy; simp at hy; subst hy; rfl) (by decide) (by unfold maxLen; omega) (by omega) (by rw [zW1]; omega) _ rfl ?_; intro g8 c8 w8 own8 grow8 pl8 lt8; (have G8 : Hid (wr.grownBy w8 (some gr)) := grown_trans (grown_of_below HB1.out (some gr)) grow8); (have N8 : Hid (PN (G + 1) (.slice (some ⟨g8, 0, none⟩) (k + 1) c8) (us ++ [.slice (some ⟨wr.heap.size, 0, none⟩) 1 1]) (List.replicate k [0] ++ [[0]]) (.slice (some ⟨gf, 0, none⟩) k cf) (F.take k) w8) := HN1.out.way HW1.out (fun j hj e => by simp [Value.ownBlock] at hj e; omega) (by simpa using own8) grow8); (have z8 : wr.heap.size ≤ w8.heap.size := G8.out.size); (have cu8 : w8.cell? ⟨gu, k, none⟩ = some (.int .i64 (t0 : Int)) := G8.out.cell cu (fun e => hug (by simpa using e))); clear own8 grow8 pl8)
        | (at_builtin; refine wpList_append_lies _ rfl (.tmp 69) (.tmp 74) 26 rfl (G + 1) 2 i0 (.int .i64 0) 1 8 Try.underlying26 hi0 hz0 hz1 hz2 rfl (by decide) _ k (ints (F.take k)) rfl (by have := (N8.out.fac).alloc (.cells #[.int .i64 (t0 : Int)] 2); rw [HFL.out] at this; exact this) ⟨w8.heap.size, 0, none⟩ 1 1 [.int .i64 (t0 : Int)] rfl rfl (cell_one w8 _) (ints_oneCell [(t0 : Int)]) (by decide) (by unfold maxLen; omega) (by omega) (by simp; omega) _ rfl ?_; intro g9 c9 w9 own9 grow9 pl9 lt9)
        | fail)
      have A8 : Below w8.heap.size w8 (w8.alloc (.cells #[.int .i64 (t0 : Int)] 2)) := by go_grown
      have G9 : Hid (w8.grownBy w9 (some gf)) := grown_trans (grown_of_below A8 (some gf)) grow9
      have own9' : w9.ownsRow (G + 1) 2 1 (.slice (some ⟨g9, 0, none⟩) (k + 1) c9) ((F.take k).length + 1) (ints (F.take k) ++ [.int .i64 (t0 : Int)]) := by rw [HFL.out]; exact own9
      have hp9 : (Value.slice (some ⟨gf, 0, none⟩) k cf).ownBlock = some g9 ∨ (w8.alloc (.cells #[.int .i64 (t0 : Int)] 2)).heap.size ≤ g9 := pl9.imp id (fun e => Nat.le_of_eq e.symm)
      have N9 : Hid _ := (N8.out.below A8).fact own9' grow9 hp9
      have cu9 : w9.cell? ⟨gu, k, none⟩ = some (.int .i64 (t0 : Int)) := G9.out.cell cu8 (fun e => huf (by simpa using e.symm))
      have GG : wr.heap.size ≤ w9.heap.size := Nat.le_trans z8 G9.out.size
      have kp : ∀ b, b < wr.heap.size → b ≠ gr → b ≠ gf → w9.heap[b]? = wr.heap[b]? := fun b hb e1 e2 => (G9.out.block b (by omega) (fun e => e2 (by simpa using e))).trans (G8.out.block b hb (fun e => e1 (by simpa using e)))
      have i9 : IntAt w9 G (seeN (List.replicate ss.length 0) ((F.take k).map (fun t => ([0], t)))) := (kp G (by omega) (by omega) (by omega)).trans HIN.out
      obtain ⟨a1, a2, a3, a4⟩ := HALL.out
      have Lw9 : Below w.heap.size w w9 := (a1.grown G8.out a1.size (fun j e => by cases e; omega)).grown G9.out (Nat.le_trans a1.size z8) (fun j e => by cases e; omega)
      have X9 := (kp w.heap.size (by omega) (by omega) (by omega)).trans a2
      have u9 : w9.ownsRow (G + 1) 2 1 (.slice (some ⟨gu, 0, none⟩) F.length uc) F.length (ints F) := own_same a3 (fun j hj => by
        have e : j = gu := by rw [hgub] at hj; simpa using hj.symm
        subst e
        exact kp j hgul.2 hug (fun e => huf e.symm))
      have ap9 : ∀ j, (Value.slice (some ⟨gu, 0, none⟩) F.length uc).ownBlock = some j → g9 ≠ j := fun j hj e => by
        have e' : j = gu := by rw [hgub] at hj; simpa using hj.symm
        subst e'
        rcases hp9 with h | h
        · have : gf = g9 := by simpa [Value.ownBlock] using h
          omega
        · simp at h
          omega
      have hok0 : ∀ e ∈ (F.take k).map (fun t => (([0] : List Int), t)), OkI (List.replicate ss.length (0 : Int)).length e := fun e he => by
        obtain ⟨x, hx, rfl⟩ := List.mem_map.1 he
        obtain ⟨tt, h1, h2, _⟩ := HFM.out x (List.mem_of_mem_take hx)
        exact ⟨0, tt, by simp; omega, h1, rfl, h2⟩
      obtain ⟨sl, ssm, _, _⟩ := seeN_all _ (List.replicate ss.length (0 : Int)) (fun j => by rw [getD_rep]; exact ⟨by decide, by decide⟩) hok0
      have hstep : seeN (List.replicate ss.length 0) ((F.take (k + 1)).map (fun t => ([0], t))) = (seeN (List.replicate ss.length 0) ((F.take k).map (fun t => ([0], t)))).set 0 (lor ((seeN (List.replicate ss.length 0) ((F.take k).map (fun t => ([0], t)))).getD 0 0) (2 ^ t0)) := by
        rw [HFS.out, List.map_append, List.map_cons, List.map_nil, seeN_snoc]
        rfl
      obtain ⟨cG, fG⟩ := i9.cell 0 (by rw [sl]; simp; omega)
      have hsm0 := ssm 0
      have HSTEP : Hid _ := hstep
      have HI9 : Hid _ := i9
      have HREP : Hid (List.replicate (k + 1) [(0 : Int)] = List.replicate k [0] ++ [[0]]) := List.replicate_succ'
      have HLx : Hid _ := Lw9
      have HXx : Hid _ := X9
      have HUx : Hid _ := u9
      clear hstep i9 sl ssm hok0 Lw9 X9 u9 a1 a2 a3 a4 grow9 own9 own9' cu cu8
      obtain ⟨y0, hy⟩ : ∃ y0, (seeN (List.replicate ss.length 0) ((F.take k).map (fun t => ([0], t)))).getD 0 0 = y0 := ⟨_, rfl⟩
      rw [hy] at cG hsm0 HSTEP
      clear hy
      go_region
      go_wp2
      go_roundw
      case rel =>
        have gs := grown_setCell1H w9 G 0 (.int .i64 (bits .or .i64 y0 (2 ^ t0)))
        have bd : Below (w9.setCell ⟨G, 0, none⟩ (.int .i64 (bits .or .i64 y0 (2 ^ t0)))).heap.size (w9.setCell ⟨G, 0, none⟩ (.int .i64 (bits .or .i64 y0 (2 ^ t0)))) (w9.setCell ⟨G, 0, none⟩ (.int .i64 (bits .or .i64 y0 (2 ^ t0)))).drew := Below.drew (Below.refl _ _)
        have LS := HLx.out.grown gs HLx.out.size (fun j e => by cases e; omega)
        refine ⟨k + 1, g8, c8, g9, c9, us ++ [.slice (some ⟨wr.heap.size, 0, none⟩) 1 1], by omega, by go_num, rfl, rfl, ?_, ?_, ?_, ?_, ?_, ap9⟩
        · rw [HREP.out, HFS.out]
          exact (N9.out.low gs (by omega)).below bd
        · rw [HSTEP.out]
          exact IntAt.set HI9.out 0 _
        · exact LS.trans (bd.mono LS.size)
        · exact (gs.block _ (Array.getElem?_eq_some_iff.1 HXx.out).1 (fun e => by simp at e; omega)).trans HXx.out
        · have ux : w9.ownsRow (G + 1) 2 1 (.slice (some ⟨gu, 0, none⟩) F.length uc) F.length (ints F) := HUx.out
          exact own_kept (own_same ux (fun j hj => gs.block j (ux.lt j hj).2 (fun e => by have := (ux.lt j hj).1; simp at e; omega))) bd
      case measure => simp [intOf]; omega
    · obtain rfl : k = F.length := by omega
      obtain ⟨f1, f2, f3, f4⟩ := first_layer (c := c) h1s h12 HF.out
      have PL0 : Hid (PL c ss s i t v w G 1 (F.map (fun t => (([0] : List Int), t))) (seeN (List.replicate ss.length 0) (F.map (fun t => ([0], t)))) gr cr gf cf us wr) := by
        rw [List.take_length] at h1 h2
        refine ⟨f1, fun zs hz => hz.1.1, ?_, h2, f2, f3, by omega, h3, h4⟩
        have e1 : (F.map (fun t => (([0] : List Int), t))).map Prod.fst = List.replicate F.length [0] := by
          rw [List.map_map]
          exact List.map_const' ..
        have e2 : (F.map (fun t => (([0] : List Int), t))).map Prod.snd = F := by rw [List.map_map]; simp [Function.comp_def]
        rw [e1, e2, List.length_map]
        exact h1
      have HF4 : Hid _ := f4
      clear h1 h2 h3 h4 h5 h6 f1 f2 f3 f4 HFM
      go_wp2_with fail
      go_loopw [12, 13] (fun rv fv wr => ∃ (L : Nat) (N : List Itm) (seen : List Int) (gr cr gf cf : Nat) (us : List Value), rv = .slice (some ⟨gr, 0, none⟩) N.length cr ∧ fv = .slice (some ⟨gf, 0, none⟩) N.length cf ∧ PL c ss s i t v w G L N seen gr cr gf cf us wr ∧ (0 < N.length → L + rem seen ≤ 1599)) (fun rv _ wr => 2 * remW wr G + min 1 (lenVP rv))
      case atStart => exact ⟨1, _, _, gr, cr, gf, cf, us, by rw [List.length_map], by rw [List.length_map], PL0.out, fun _ => HF4.out⟩
      case round =>
        obtain ⟨L, N, seen, gr, cr, gf, cf, us, rfl, rfl, hP, hbd⟩ := hrel
        have HBD : Hid _ := hbd
        clear PL0 hbd HF4
        by_cases hN : 0 < N.length
        · have hN' : (0 : Int) < (N.length : Int) := by omega
          have HP : Hid (PL c ss s i t v w G L N seen gr cr gf cf us wr) := hP
          obtain ⟨wy, hwy⟩ : ∃ x, x = wr := ⟨_, rfl⟩
          subst hwy
          have hnl := hP.lenN h12 hok
          have hN2 : (N.length : Int) ≤ 84 := by omega
          clear hP
          go_wp2
          go_loopw [16, 17] (fun bv iv wr => ∃ k : Nat, k ≤ N.length ∧ iv = .int .i64 k ∧ Below wy.heap.size wy wr ∧ ((bv = .int .i64 (-1) ∧ ∀ j e, j < k → N[j]? = some e → ¬ (lastI e.1 = (i : Int) ∧ e.2 = (t : Int))) ∨ ∃ b e, b < k ∧ bv = .int .i64 (b : Int) ∧ N[b]? = some e ∧ lastI e.1 = (i : Int) ∧ e.2 = (t : Int))) (fun _ iv _ => N.length - (intOf iv).toNat)
          case atStart => exact ⟨0, Nat.zero_le _, rfl, Below.refl _ _, .inl ⟨rfl, fun j e h => by omega⟩⟩
          case round =>
            obtain ⟨k, hk, rfl, hB, hbv⟩ := hrel
            have HBV : Hid _ := hbv
            by_cases hlk : k < N.length
            · have hlk' : (k : Int) < (N.length : Int) := by omega
              obtain ⟨e, a, m, ca, he, hm1, hm2, c1, c2, c3⟩ := HP.out.item hlk
              have c1 := cell_regrown ((hB.cell (World.block_lt_of_cell? wy _ c1)).trans c1)
              have c2 := cell_regrown ((hB.cell (World.block_lt_of_cell? wy _ c2)).trans c2)
              have c3 := cell_regrown ((hB.cell (World.block_lt_of_cell? wy _ c3)).trans c3)
              have hbnd := HP.out.bound
              obtain ⟨M, hM⟩ : ∃ M, m + 1 = M := ⟨_, rfl⟩
              rw [hM] at c1 hm1 hm2
              have hMm : (M : Int) - 1 = (m : Int) := by omega
              have hmM : (m : Int) < (M : Int) := by omega
              have hM16 : M ≤ 1600 := by omega
              have hmw : IntKind.i64.wrap (m : Int) = (m : Int) := IntWalk.i64_in _ (by omega)
              have hk0 : (0 : Int) ≤ (k : Int) := by omega
              obtain ⟨x, hx⟩ : ∃ x, lastI e.1 = x := ⟨_, rfl⟩
              obtain ⟨y, hy⟩ : ∃ y, e.2 = y := ⟨_, rfl⟩
              rw [hx] at c2
              rw [hy] at c3
              have HX : Hid (lastI e.1 = x ∧ e.2 = y ∧ N[k]? = some e) := ⟨hx, hy, he⟩
              have HB : Hid (Below wy.heap.size wy wr) := hB
              clear hx hy he hM hbv hB hm1
              by_cases hb1 : x = (i : Int)
              · have hb1t : (x == (i : Int)) = true := by simpa using hb1
                by_cases hb2 : y = (t : Int)
                · have hb2t : (y == (t : Int)) = true := by simpa using hb2
                  have hneg : u16 = .int .i64 (-1) := by
                    rcases HBV.out with ⟨h1, _⟩ | ⟨b, e', hb, _, hN', h1, h2⟩
                    · exact h1
                    · have := HP.out.lay.uniq b k e' e hN' HX.out.2.2 (by rw [h1, HX.out.1]; exact hb1.symm) (by rw [h2, HX.out.2.1]; exact hb2.symm)
                      omega
                  subst hneg
                  go_wp2
                  refine wp_region_quiet_below (by kernel_rfl) (by kernel_rfl) ?_
                  repeat (go_big_quiet_step (fail))
                  refine wpQuiet_nil ?_
                  intro _ hw'
                  obtain ⟨⟨dq, osq⟩, hw''⟩ := hw'
                  subst hw''
                  have BW := below_regrown wr dq osq
                  go_wp2
                  go_roundw
                  case rel => exact ⟨k + 1, by omega, by go_num, HB.out.trans (BW.mono HB.out.size), .inr ⟨k, e, by omega, rfl, HX.out.2.2, by rw [HX.out.1]; exact hb1, by rw [HX.out.2.1]; exact hb2⟩⟩
                  case measure => simp [intOf]; omega
                · have hb2f : (y == (t : Int)) = false := by simpa using hb2
                  go_wp2
                  refine wp_region_quiet_below (by kernel_rfl) (by kernel_rfl) ?_
                  repeat (go_big_quiet_step (fail))
                  refine wpQuiet_nil ?_
                  intro _ hw'
                  obtain ⟨⟨dq, osq⟩, hw''⟩ := hw'
                  subst hw''
                  have BW := below_regrown wr dq osq
                  go_wp2
                  go_roundw
                  case rel =>
                    refine ⟨k + 1, by omega, by go_num, HB.out.trans (BW.mono HB.out.size), ?_⟩
                    rcases HBV.out with ⟨h1, h2⟩ | ⟨b, e', hb, h1, h2⟩
                    · refine .inl ⟨h1, fun j e' hj hN' => ?_⟩
                      by_cases hjk : j < k
                      · exact h2 j e' hjk hN'
                      · obtain rfl : j = k := by omega
                        rw [HX.out.2.2] at hN'
                        obtain rfl : e = e' := by simpa using hN'
                        rw [HX.out.2.1]
                        exact fun h => hb2 h.2
                    · exact .inr ⟨b, e', by omega, h1, h2⟩
                  case measure => simp [intOf]; omega
              · have hb1f : (x == (i : Int)) = false := by simpa using hb1
                go_wp2
                refine wp_region_quiet_below (by kernel_rfl) (by kernel_rfl) ?_
                repeat (go_big_quiet_step (fail))
                refine wpQuiet_nil ?_
                intro _ hw'
                obtain ⟨⟨dq, osq⟩, hw''⟩ := hw'
                subst hw''
                have BW := below_regrown wr dq osq
                go_wp2
                go_roundw
                case rel =>
                  refine ⟨k + 1, by omega, by go_num, HB.out.trans (BW.mono HB.out.size), ?_⟩
                  rcases HBV.out with ⟨h1, h2⟩ | ⟨b, e', hb, h1, h2⟩
                  · refine .inl ⟨h1, fun j e' hj hN' => ?_⟩
                    by_cases hjk : j < k
                    · exact h2 j e' hjk hN'
                    · obtain rfl : j = k := by omega
                      rw [HX.out.2.2] at hN'
                      obtain rfl : e = e' := by simpa using hN'
                      rw [HX.out.1]
                      exact fun h => hb1 h.1
                  · exact .inr ⟨b, e', by omega, h1, h2⟩
                case measure => simp [intOf]; omega
            · obtain rfl : k = N.length := by omega
              have hge : ¬ (N.length : Int) < (N.length : Int) := by omega
              have HB : Hid (Below wy.heap.size wy wr) := hB
              rcases hbv with ⟨rfl, hno⟩ | ⟨b, e, hb, rfl, hNb, h1, h2⟩
              · have HNO : Hid _ := hno
                have HMIN : Hid (∀ zs, Brings c ss s i t zs → L + 1 ≤ zs.length) := HP.out.lay.more ht7 HP.out.far (fun e he h => by
                  obtain ⟨j, hj⟩ := List.getElem?_of_mem he
                  exact hno j e ((List.getElem?_eq_some_iff.1 hj).1) hj h)
                obtain ⟨ip, hip, hq0, hq1, hq2⟩ := info_parts infoInt
                have z0r : wr.heap.size + 1 = (wr.alloc (.cells #[] 26)).heap.size := by simp
                have NS0 : Hid (NS wy wy wy.heap.size wy.heap.size [] wr.heap.size 0 (wr.heap.size + 1) 0 [] ((wr.alloc (.cells #[] 26)).alloc (.cells #[] 2))) := by
                  have hbz := hB.size
                  refine ⟨⟨((made0S wr).mono hbz).below (by go_grown), ?_, by simp⟩, (hB.alloc hbz _).alloc (by simp; omega) _, fun b h0 h1 => absurd h1 (by omega), by simp; omega, Nat.lt_or_ge _ _, Nat.lt_or_ge _ _⟩
                  rw [z0r]
                  exact own_mono (made0 (wr.alloc (.cells #[] 26))) (by omega)
                clear hno HBV hB HB z0r
                go_wp2_with fail
                refine iLoop ss c s i t v w hok h12 hc hl hv G L N seen gr cr gf cf us wy HP hnl hN2 _ _ _ _ _ NS0 (fun x a d y w h => h) ?_
                intro M gn cn gm cm us2 wr x21 x22 x23 x24 x25 x26 x27 x28 x145 x146 x147 x148 x149 x150 x151 x152 x153 x154 x155 x156 x157 x158 x159 x160 x161 x162 x163 x164 x165 x166 x167 x168 x169 x170 x171 x172 x173 x174 x175 x176 x177 x178 x179 x180 x181 x182 x183 x184 x185 x186 x187 x188 x189 x190 x191 x192 x193 x194 x195 x196 x197 x198 x199 x200 x201 x202 x203 x204 x205 x206 x207 x208 x209 x210 x211 x212 x213 x214 x215 x216 x217 x218 x219 x220 x221 x222 x223 x224 x225 x226 x227 x228 x229 x230 x231 x232 x233 x234 x235 x236 x237 x238 x239 x240 x241 x242 x243 x244 x245 x246 x247 x248 x249 x250 x251 x252 x253 x254 x255 x256 x257 x258 x259 x260 x261 x262 x263 x264 x265 x266 x267 x268 x269 x270 x271 x272 x273 x274 x275 x276 hS hM
                have HS : Hid _ := hS
                have HM : Hid _ := hM
                clear hS hM NS0
                have HMC : Hid (MinOf (Cand c ss seen N) M) := minI_end hok HP.out.lay HM.out
                have HML : Hid (∀ z ∈ M, ItmOk ss.length (L + 1) z) := fun z hz => fi_ok (i := N.length) hok HP.out.lay (HM.out.isC z hz)
                have hm84 : M.length ≤ 84 := by
                  have := items_len (n := ss.length) (N := M) (fun z hz => (HML.out z hz).2) HM.out.uniq
                  omega
                have hok7 : ∀ z ∈ M, OkI seen.length z := fun z hz => by rw [HP.out.len]; exact (HML.out z hz).2
                have HG : Hid _ := seeN_all M seen HP.out.small hok7
                have zG : G < wy.heap.size := HP.out.sat.lt
                have zS := HS.out.old.size
                have zn := HS.out.ltn.1
                have zm := HS.out.ltm.1
                have hbnd := HP.out.bound
                obtain ⟨wz, hwz⟩ : ∃ x, x = wr := ⟨_, rfl⟩
                subst hwz
                have ST : Hid (IntAt wz G (seeN seen (M.take 0)) ∧ wz.grownBy wz (some G)) := ⟨(HS.out.old.block G zG).trans HP.out.sat, World.grownBy.refl _ _⟩
                obtain ⟨L9, hL9⟩ : ∃ L9, L + 1 = L9 := ⟨_, rfl⟩
                have hLm9 : (L9 : Int) - 1 = (L : Int) := by omega
                have hLl9 : (L : Int) < (L9 : Int) := by omega
                have hLw9 : IntKind.i64.wrap (L : Int) = (L : Int) := IntWalk.i64_in _ (by omega)
                have hL0 : (0 : Int) ≤ (L : Int) := by omega
                have HL9 : Hid _ := hL9
                clear HM hok7 hL9
                --
                go_wp2_with fail
                go_loopw [29] (fun iv wq => ∃ b : Nat, b ≤ M.length ∧ iv = .int .i64 b ∧ IntAt wq G (seeN seen (M.take b)) ∧ wz.grownBy wq (some G)) (fun iv _ => M.length - (intOf iv).toNat)
                case atStart => exact ⟨0, Nat.zero_le _, rfl, ST.out.1, ST.out.2⟩
                case round =>
                  obtain ⟨b, hb, rfl, hI, hg⟩ := hrel
                  have HI : Hid _ := hI
                  have HGR : Hid _ := hg
                  clear hI ST
                  by_cases hlb : b < M.length
                  · have hlb' : (b : Int) < (M.length : Int) := by omega
                    have hb0 : (0 : Int) ≤ (b : Int) := by omega
                    obtain ⟨z, az, caz, hz, d1, d2, d3, _, oz⟩ := HS.out.item (m := L) (fun z hz => (HML.out z hz).1) hlb
                    obtain ⟨i9, t9, hi9, ht9, e9, f9⟩ := (HML.out z (List.mem_of_getElem? hz)).2
                    have haz := (oz.lt az rfl).1
                    rw [e9] at d2
                    rw [f9] at d3
                    have d1 := hg.cell d1 (fun h => by simp at h; omega)
                    have d2 := hg.cell d2 (fun h => by simp at h; omega)
                    have d3 := hg.cell d3 (fun h => by simp at h; omega)
                    rw [HL9.out] at d1
                    have hM2 : M.take (b + 1) = M.take b ++ [z] := by
                      rw [List.take_add_one, hz]; rfl
                    have HSTEP : Hid (seeN seen (M.take (b + 1)) = (seeN seen (M.take b)).set i9 (lor ((seeN seen (M.take b)).getD i9 0) (2 ^ t9))) := by
                      show seeN seen (M.take (b + 1)) = _
                      rw [hM2, seeN_snoc, see1, e9, f9, Int.toNat_natCast, Int.toNat_natCast]
                    have hsok := seeN_all (M.take b) seen HP.out.small (fun z hz => by rw [HP.out.len]; exact (HML.out z (List.mem_of_mem_take hz)).2)
                    have hsl := hsok.1
                    have hsml := hsok.2.1 i9
                    have hi9' : (i9 : Int) < (ss.length : Int) := by omega
                    have hi90 : (0 : Int) ≤ (i9 : Int) := by omega
                    have hlen := HP.out.len
                    obtain ⟨cG, fG⟩ := IntAt.cell HI.out i9 (by rw [hsl, hlen]; exact hi9)
                    obtain ⟨y0, hy⟩ : ∃ y0, (seeN seen (M.take b)).getD i9 0 = y0 := ⟨_, rfl⟩
                    rw [hy] at cG hsml HSTEP
                    have hpow : (1 : Int) * 2 ^ t9 ≤ 64 ∧ (1 : Int) ≤ 2 ^ t9 := by
                      have hc : t9 = 0 ∨ t9 = 1 ∨ t9 = 2 ∨ t9 = 3 ∨ t9 = 4 ∨ t9 = 5 ∨ t9 = 6 := by omega
                      rcases hc with rfl | rfl | rfl | rfl | rfl | rfl | rfl <;> decide
                    have hu64 : IntKind.u64.wrap (t9 : Int) = (t9 : Int) := by
                      have hc : t9 = 0 ∨ t9 = 1 ∨ t9 = 2 ∨ t9 = 3 ∨ t9 = 4 ∨ t9 = 5 ∨ t9 = 6 := by omega
                      rcases hc with rfl | rfl | rfl | rfl | rfl | rfl | rfl <;> rfl
                    have HD3 : Hid _ := d3
                    have HCG : Hid _ := cG
                    have HFG : Hid _ := fG
                    have d1 := cell_regrown d1
                    have d2 := cell_regrown d2
                    clear hy hM2 hsok hz oz cG fG d3 hsl hlen e9 f9
                    go_wp2
                    refine wp_region_quiet_below (by kernel_rfl) (by kernel_rfl) ?_
                    repeat (go_big_quiet_step (fail))
                    refine wpQuiet_nil ?_
                    intro _ hw'
                    obtain ⟨⟨dq7, osq7⟩, hw''⟩ := hw'
                    subst hw''
                    have BW7 := below_regrown wr dq7 osq7
                    have cG := (BW7.cell (World.block_lt_of_cell? wr _ HCG.out)).trans HCG.out
                    have d3 := (BW7.cell (World.block_lt_of_cell? wr _ HD3.out)).trans HD3.out
                    have HI7 : Hid (IntAt (Go.Sort.grow (redrawn wr dq7) osq7) G (seeN seen (M.take b))) := (BW7.block G (Array.getElem?_eq_some_iff.1 HI.out).1).trans HI.out
                    have HG7 : Hid (wz.grownBy (Go.Sort.grow (redrawn wr dq7) osq7) (some G)) := grown_trans HGR.out (grown_of_below BW7 (some G))
                    obtain ⟨_, fG⟩ := HI7.out.cell i9 (by have := (seeN_all (M.take b) seen HP.out.small (fun z hz => by rw [HP.out.len]; exact (HML.out z (List.mem_of_mem_take hz)).2)).1; rw [this, HP.out.len]; exact hi9)
                    clear d1 d2 BW7 HCG HFG HD3 HI HGR hg
                    go_wp2_with fail
                    generalize Go.Sort.grow (redrawn wr dq7) osq7 = w7 at *
                    go_region
                    go_wp2
                    go_roundw
                    case rel =>
                      have gs := grown_setCell1H w7 G i9 (.int .i64 (bits .or .i64 y0 (2 ^ t9)))
                      have bd : Below (w7.setCell ⟨G, i9, none⟩ (.int .i64 (bits .or .i64 y0 (2 ^ t9)))).heap.size (w7.setCell ⟨G, i9, none⟩ (.int .i64 (bits .or .i64 y0 (2 ^ t9)))) (w7.setCell ⟨G, i9, none⟩ (.int .i64 (bits .or .i64 y0 (2 ^ t9)))).drew := Below.drew (Below.refl _ _)
                      refine ⟨b + 1, by omega, by go_num, ?_, grown_trans (grown_trans HG7.out gs) (grown_of_below bd (some G))⟩
                      rw [HSTEP.out]
                      exact IntAt.set HI7.out i9 _
                    case measure => simp [intOf]; omega
                  · obtain rfl : b = M.length := by omega
                    have hge2 : ¬ (M.length : Int) < (M.length : Int) := by omega
                    have HIE : Hid (IntAt wr G (seeN seen M)) := by
                      have := HI.out
                      rw [List.take_length] at this
                      exact this
                    clear HI hg
                    go_wp2
                    go_roundw
                    case rel =>
                      obtain ⟨q1, q2, q3, q4⟩ := HG.out
                      have hB9 : Below w.heap.size w wz := HP.out.below.trans (HS.out.old.mono HP.out.below.size)
                      have hrm : 0 < M.length → rem (seeN seen M) + 1 ≤ rem seen := fun h => seeN_rem HP.out.small (fun z hz => by rw [HP.out.len]; exact (HML.out z hz).2) (fun z hz i' t' h1 h2 => by
                        obtain ⟨e', he', y', t'', _, _, _, hs, rfl⟩ := HMC.out.isC z hz
                        have h3 : (y' : Int) = (i' : Int) := (lastI_snoc _ _).symm.trans h1
                        have h4 : (t'' : Int) = (t' : Int) := h2
                        obtain rfl : y' = i' := by omega
                        obtain rfl : t'' = t' := by omega
                        exact hs) (fun h' => by rw [h'] at h; simp at h)
                      have hbd := HBD.out hN
                      refine ⟨L + 1, M, seeN seen M, gn, cn, gm, cm, us2, rfl, rfl, ⟨?_, HMIN.out, ?_, HIE.out, q1.trans HP.out.len, q2, ?_, ?_, ?_⟩, fun h => by have := hrm h; omega⟩
                      · exact Layer.next hok (fun j hj => flw_smalls hok hj) HP.out.lay HMC.out (fun j u hu => q3 j u hu)
                      · have h9 := HS.out.mem.low HGR.out zG
                        exact ⟨h9.row.mono (by omega), own_mono h9.fac (by omega), h9.ap⟩
                      · by_cases h : 0 < M.length
                        · have := hrm h; omega
                        · omega
                      · exact hB9.grown HGR.out hB9.size (fun k h => by simp at h; omega)
                      · exact (HGR.out.block w.heap.size (by have := (Array.getElem?_eq_some_iff.1 HP.out.box).1; omega) (fun h => by simp at h; omega)).trans ((HS.out.old.block w.heap.size ((Array.getElem?_eq_some_iff.1 HP.out.box).1)).trans HP.out.box)
                    case measure =>
                      obtain ⟨q1, q2, q3, q4⟩ := HG.out
                      have r1 : remW wr G = rem (seeN seen M) := remW_eq HIE.out
                      have r2 : remW wy G = rem seen := remW_eq HP.out.sat
                      rw [r1, r2]
                      have hrm : 0 < M.length → rem (seeN seen M) + 1 ≤ rem seen := fun h => seeN_rem HP.out.small (fun z hz => by rw [HP.out.len]; exact (HML.out z hz).2) (fun z hz i' t' h1 h2 => by
                        obtain ⟨e', he', y', t'', _, _, _, hs, rfl⟩ := HMC.out.isC z hz
                        have h3 : (y' : Int) = (i' : Int) := (lastI_snoc _ _).symm.trans h1
                        have h4 : (t'' : Int) = (t' : Int) := h2
                        obtain rfl : y' = i' := by omega
                        obtain rfl : t'' = t' := by omega
                        exact hs) (fun h' => by rw [h'] at h; simp at h)
                      simp only [lenVP]
                      by_cases h : 0 < M.length
                      · have := hrm h; omega
                      · omega
              · have hbneg : ¬ (b : Int) < 0 := by omega
                have hb0 : (0 : Int) ≤ (b : Int) := by omega
                have hbN : (b : Int) < (N.length : Int) := by omega
                have HIP : Hid (IsProof c ss s i t e.1) := HP.out.lay.found ht7 (List.mem_of_getElem? hNb) h1 h2
                obtain ⟨hel, _⟩ := HP.out.lay.item e (List.mem_of_getElem? hNb)
                have hpos := HP.out.lay.pos
                have hbnd := HP.out.bound
                have hrow := HP.out.mem.row
                have hml : (N.map Prod.fst).length = N.length := by simp
                rw [← hml] at hrow
                obtain ⟨u, hu, hc0, ho⟩ := hrow.at (j := b) (by omega)
                have e1 : (N.map Prod.fst)[b]'(by omega) = e.1 := by
                  rw [List.getElem?_eq_getElem hb] at hNb
                  have : N[b] = e := by simpa using hNb
                  simp [this]
                rw [e1] at ho
                obtain ⟨X, hX⟩ : ∃ X, e.1 = X := ⟨_, rfl⟩
                rw [hX] at ho hel HIP
                rcases own_shape ho with ⟨_, e3, _⟩ | ⟨ga, gc, e3, _⟩
                · omega
                subst e3
                have zr := World.block_lt_of_cell? wy _ hc0
                have c1 := (hB.cell zr).trans hc0
                have ow := own_kept ho hB
                have BA0 : Below wr.heap.size wr (wr.alloc (.cells #[] 2)) := by go_grown
                have c1' := (BA0.cell (p := ⟨gr, b, none⟩) (Nat.lt_of_lt_of_le zr hB.size)).trans c1
                have HM0 : Hid ((wr.alloc (.cells #[] 2)).ownsRow wr.heap.size 2 1 (.slice (some ⟨wr.heap.size, 0, none⟩) 0 0) 0 []) := made0 wr
                have HSR : Hid (∀ (j : Nat) (u : Value), (ints X)[j]? = some u → (wr.alloc (.cells #[] 2)).cell? ((⟨ga, 0, none⟩ : Addr).add j) = some u) := (own_kept ow BA0).cells rfl
                have HIL : Hid ((ints X).length = X.length * 1) := by
                  show (ints X).length = X.length * 1
                  rw [ints_length]; omega
                have hX1 : 0 < X.length := by omega
                have hX2 : X.length ≤ 1600 := by omega
                have LW : Hid (Below w.heap.size w wr) := HP.out.below.trans (hB.mono HP.out.below.size)
                have HBA : Hid _ := BA0
                have HOC : Hid (∀ y ∈ ints X, y.oneCell' = true) := ints_oneCell X
                clear hrow hml hu hc0 ho e1 hX ow BA0 hB hel hNb h1 h2 HBV c1 HP
                go_wp2_with (first
                  | (at_builtin; refine wpList_append_lies _ rfl (.tmp 137) (.tmp 141) 26 rfl wr.heap.size 2 i0 (.int .i64 0) 1 8 Try.underlying26 hi0 hz0 hz1 hz2 rfl (by decide) (.slice (some ⟨wr.heap.size, 0, none⟩) 0 0) 0 [] rfl HM0.out ⟨ga, 0, none⟩ X.length gc (ints X) rfl HIL.out HSR.out HOC.out hX1 (by unfold maxLen; omega) (by omega) (by simp) _ rfl ?_; intro g9 c9 w9 own9 grow9 pl9 lt9)
                  | fail)
                have B9 : Below wr.heap.size wr w9 := HBA.out.grown grow9 HBA.out.size (fun k e => by
                  have e1 : wr.heap.size = k := by simpa [Value.ownBlock] using e
                  omega)
                rw [Nat.zero_add, List.nil_append] at own9
                have zL := LW.out.size
                go_ret
                have o10 := own_mono own9 zL
                have L10 := LW.out.trans (B9.mono zL)
                first
                  | exact ⟨X, _, HIP.out, by omega, rfl, o10, L10⟩
                  | exact ⟨X, HIP.out, by omega, _, rfl, o10, L10⟩
                  | exact ⟨X, _, HIP.out, by omega, by rw [Nat.zero_add], o10, L10⟩
                  | exact ⟨X, HIP.out, by omega, _, by rw [Nat.zero_add], o10, L10⟩
        · obtain rfl : N = [] := List.eq_nil_of_length_eq_zero (by omega)
          have HIP : Hid (IsProof c ss s i t []) := hP.lay.last hok (fun j hj => flw_smalls hok hj) ht7 hP.far
          have hsz := hP.below
          have HB : Hid _ := hsz
          have hs2 := hsz.size
          clear hsz hP
          go_wp2
          go_ret
          exact ⟨[], _, HIP.out, by simp, rfl, made_nil _ _ (by omega), HB.out.alloc hs2 _⟩

end Go.Proofs.Ytciccbbgamklbaa
