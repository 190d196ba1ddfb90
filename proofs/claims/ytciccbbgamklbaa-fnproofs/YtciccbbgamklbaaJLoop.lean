/-
  spec.Proof: the loop over the facts that come of one item by one next statement, as a theorem of its own.
-/
import Derived.Test.YtciccbbgamklbaaG08RegionLast
import Derived.Lib.QuietBelow
namespace Go.Proofs.Ytciccbbgamklbaa
open Go.RowKit
set_option linter.unusedVariables false
set_option linter.unusedSimpArgs false
set_option maxHeartbeats 4000000
set_option maxRecDepth 20000

/-- The bodies of a code's loops, the outer ahead of the inner. -/
def loopsIn : Code → List Code
  | .loop c => c :: loopsIn c
  | .seq a b => loopsIn a ++ loopsIn b
  | .block _ c => loopsIn c
  | .scope c => loopsIn c
  | .cond _ a b => loopsIn a ++ loopsIn b
  | _ => []
noncomputable def jBody : Code := ((loopsIn (Try.f6.body.getD .skip))[5]?).getD .skip

theorem jLoop {Q0 : Exit → Act → World → Prop} (ss : List Stm) (c s : Int) (i t : Nat) (v : Value) (w : World) (hok : procOk ss = true) (h12 : ss.length ≤ 12) (G L : Nat) (N : List Itm) (seen : List Int) (gr cr gf cf : Nat) (us : List Value) (wy : World)
    (HP : Hid (PL c ss s i t v w G L N seen gr cr gf cf us wy)) (hnl : N.length ≤ 84) (hN2 : (N.length : Int) ≤ 84) (a : Nat) (ha0 : (0 : Int) ≤ (a : Int)) (hla : a < N.length) (hla' : (a : Int) < (N.length : Int)) (e : Itm) (ea m ca MM j' u : Nat)
    (HE : Hid (N[a]? = some e ∧ e.1.length = m + 1 ∧ lastI e.1 = (j' : Int) ∧ e.2 = (u : Int) ∧ L = m + 1)) (HMM : Hid (m + 1 = MM)) (hM16 : MM ≤ 1600)
    (HEO : Hid (wy.ownsRow (G + 1) 2 1 (.slice (some ⟨ea, 0, none⟩) (m + 1) ca) (m + 1) (ints e.1))) (HCW : Hid (wy.cell? ⟨gr, a, none⟩ = some (.slice (some ⟨ea, 0, none⟩) (m + 1) ca)))
    (ys Fs : List Int) (hylen : ys.length ≤ 2) (hflen : Fs.length ≤ 7) (HYS : Hid (∀ y ∈ ys, ∃ i : Nat, y = (i : Int) ∧ i < ss.length)) (HFM2 : Hid (∀ x ∈ Fs, ∃ t : Nat, t < 7 ∧ x = (t : Int))) (SM : Hid (∀ k, Small (seen.getD k 0)))
    (w4 : World) (F0 F1 gy cy : Nat) (fo : Option Addr) (fc : Nat) (hF1 : w4.heap.size = F1) (hgy0 : F0 ≤ gy) (hgy1 : gy < F1)
    (HFV : Hid (w4.ownsRow F0 2 1 (.slice fo Fs.length fc) Fs.length (ints Fs)))
    (b yn : Nat) (hb0 : (0 : Int) ≤ (b : Int)) (hlb : b < ys.length) (hlb' : (b : Int) < (ys.length : Int)) (hynl : yn < ss.length) (hynl' : (yn : Int) < (ss.length : Int)) (hyn0 : (0 : Int) ≤ (yn : Int)) (HCY : Hid (w4.cell? ⟨gy, b, none⟩ = some (.int .i64 (yn : Int))))
    (M2 : List Itm) (gn2 cn2 gm2 cm2 : Nat) (us3 : List Value) (wr : World) (HS2 : Hid (NS wy w4 F0 F1 M2 gn2 cn2 gm2 cm2 us3 wr)) (HM2 : Hid (MinOf (fun z => FI c ss seen (N.take a) z ∨ FK seen e (ys.take b) Fs z) M2))
    {z0 z2 z3 z4 z5 z6 z7 z8 z9 z10 z13 z14 z15 z16 z17 z21 z26 z27 z28 z29 z30 z31 z32 z33 z34 z35 z36 z37 z38 z39 z40 z41 z42 z43 z44 z45 z46 z47 z48 z49 z50 z51 z52 z53 z54 z55 z56 z57 z58 z59 z60 z61 z62 z63 z64 z65 z66 z67 z68 z69 z70 z71 z72 z73 z74 z75 z76 z77 z78 z79 z80 z81 z82 z83 z84 z85 z86 z87 z88 z89 z90 z91 z92 z93 z94 z95 z96 z97 z98 z99 z100 z101 z102 z103 z104 z105 z106 z107 z108 z109 z110 z111 z112 z113 z114 z115 z116 z117 z118 z119 z120 z121 z122 z123 z124 z125 z126 z127 z128 z129 z130 z131 z132 z133 z134 z135 z136 z137 z138 z139 z140 z141 z142 z143 z144 z145 z146 z147 z148 z149 z150 z151 z152 z153 z154 z155 z156 z157 z158 z159 z160 z161 z162 z163 z164 z165 z166 z167 z168 z169 z170 z171 z172 z173 z174 z175 z176 z177 z178 z179 z180 z181 z182 z183 z184 z185 z186 z187 z188 z189 z190 z191 z192 z193 z194 z195 z196 z197 z198 z199 z200 z201 z202 z203 z204 z205 z206 z207 z208 z209 z210 z211 z212 z213 z214 z215 z216 z217 z218 z219 z220 z221 z222 z223 z224 z225 z226 z227 z228 z229 z230 z231 z232 z233 z234 z235 z236 z237 z238 z239 z240 z241 z242 z243 z244 z245 z246 z247 z248 z249 z250 z251 z252 z253 z254 z255 z256 z257 z258 z259 z260 z261 z262 z263 z264 z265 z266 z267 z268 z269 z270 z271 z272 z273 z274 z275 z276 z277 z278 z279 z280 z281 z282 z283 z284 z285 z286 z287 z288 z289 z290 z291 z292 z293 z294 z295 z296 z297 z298 z299 z300 z301 z302 z303 z304 z305 z306 z307 z308 z309 z310 z311 : Value}
    (HQP : Hid (∀ x a d y w, Q0 (.panic x) (Act.put a (some d) y) w → Q0 (.panic x) a w))
    (hexit : ∀ (M3 : List Itm) (gn3 cn3 gm3 cm3 : Nat) (us4 : List Value) (wq : World) (x26 x27 x28 x186 x187 x188 x189 x190 x191 x192 x193 x194 x195 x196 x197 x198 x199 x200 x201 x202 x203 x204 x205 x206 x207 x208 x209 x210 x211 x212 x213 x214 x215 x216 x217 x218 x219 x220 x221 x222 x223 x224 x225 x226 x227 x228 x229 x230 x231 x232 x233 x234 x235 x236 x237 x238 x239 x240 x241 x242 x243 x244 x245 x246 x247 x248 x249 x250 x251 x252 x253 x254 x255 x256 x257 x258 x259 x260 x261 x262 x263 x264 x265 x266 x267 x268 x269 x270 x271 x272 x273 x274 x275 x276 : Value), NS wy w4 F0 F1 M3 gn3 cn3 gm3 cm3 us4 wq → MinOf (fun z => (FI c ss seen (N.take a) z ∨ FK seen e (ys.take b) Fs z) ∨ FJ seen e (yn : Int) (Fs.take Fs.length) z) M3 → Q0 (.exit 10) ⟨List.toArray (z0 :: (.int .i64 c) :: z2 :: z3 :: z4 :: z5 :: z6 :: z7 :: z8 :: z9 :: z10 :: (.slice (some ⟨G, 0, none⟩) ss.length ss.length) :: (.slice (some ⟨gr, 0, none⟩) N.length cr) :: z13 :: z14 :: z15 :: z16 :: z17 :: (.slice (some ⟨gn3, 0, none⟩) M3.length cn3) :: (.slice (some ⟨gm3, 0, none⟩) M3.length cm3) :: (.int .i64 (a : Int)) :: z21 :: (.slice fo Fs.length fc) :: (.slice (some ⟨gy, 0, none⟩) ys.length cy) :: (.int .i64 (b : Int)) :: (.int .i64 (Fs.length : Int)) :: (x26) :: (x27) :: (x28) :: z29 :: z30 :: z31 :: z32 :: z33 :: z34 :: z35 :: z36 :: z37 :: z38 :: z39 :: z40 :: z41 :: z42 :: z43 :: z44 :: z45 :: z46 :: z47 :: z48 :: z49 :: z50 :: z51 :: z52 :: z53 :: z54 :: z55 :: z56 :: z57 :: z58 :: z59 :: z60 :: z61 :: z62 :: z63 :: z64 :: z65 :: z66 :: z67 :: z68 :: z69 :: z70 :: z71 :: z72 :: z73 :: z74 :: z75 :: z76 :: z77 :: z78 :: z79 :: z80 :: z81 :: z82 :: z83 :: z84 :: z85 :: z86 :: z87 :: z88 :: z89 :: z90 :: z91 :: z92 :: z93 :: z94 :: z95 :: z96 :: z97 :: z98 :: z99 :: z100 :: z101 :: z102 :: z103 :: z104 :: z105 :: z106 :: z107 :: z108 :: z109 :: z110 :: z111 :: z112 :: z113 :: z114 :: z115 :: z116 :: z117 :: z118 :: z119 :: z120 :: z121 :: z122 :: z123 :: z124 :: z125 :: z126 :: z127 :: z128 :: z129 :: z130 :: z131 :: z132 :: z133 :: z134 :: z135 :: z136 :: z137 :: z138 :: z139 :: z140 :: z141 :: z142 :: z143 :: z144 :: z145 :: z146 :: z147 :: z148 :: z149 :: z150 :: z151 :: z152 :: z153 :: z154 :: z155 :: z156 :: z157 :: z158 :: z159 :: z160 :: z161 :: z162 :: z163 :: z164 :: z165 :: z166 :: z167 :: z168 :: z169 :: z170 :: z171 :: z172 :: z173 :: z174 :: z175 :: z176 :: z177 :: z178 :: z179 :: z180 :: z181 :: z182 :: z183 :: z184 :: z185 :: (x186) :: (x187) :: (x188) :: (x189) :: (x190) :: (x191) :: (x192) :: (x193) :: (x194) :: (x195) :: (x196) :: (x197) :: (x198) :: (x199) :: (x200) :: (x201) :: (x202) :: (x203) :: (x204) :: (x205) :: (x206) :: (x207) :: (x208) :: (x209) :: (x210) :: (x211) :: (x212) :: (x213) :: (x214) :: (x215) :: (x216) :: (x217) :: (x218) :: (x219) :: (x220) :: (x221) :: (x222) :: (x223) :: (x224) :: (x225) :: (x226) :: (x227) :: (x228) :: (x229) :: (x230) :: (x231) :: (x232) :: (x233) :: (x234) :: (x235) :: (x236) :: (x237) :: (x238) :: (x239) :: (x240) :: (x241) :: (x242) :: (x243) :: (x244) :: (x245) :: (x246) :: (x247) :: (x248) :: (x249) :: (x250) :: (x251) :: (x252) :: (x253) :: (x254) :: (x255) :: (x256) :: (x257) :: (x258) :: (x259) :: (x260) :: (x261) :: (x262) :: (x263) :: (x264) :: (x265) :: (x266) :: (x267) :: (x268) :: (x269) :: (x270) :: (x271) :: (x272) :: (x273) :: (x274) :: (x275) :: (x276) :: z277 :: z278 :: z279 :: z280 :: z281 :: z282 :: z283 :: z284 :: z285 :: z286 :: z287 :: z288 :: z289 :: z290 :: z291 :: z292 :: z293 :: z294 :: z295 :: z296 :: z297 :: z298 :: z299 :: z300 :: z301 :: z302 :: z303 :: z304 :: z305 :: z306 :: z307 :: z308 :: z309 :: z310 :: z311 :: ([] : List Value)), []⟩ wq) :
    Code.wp Try.prog (Code.loop jBody) Q0 ⟨List.toArray (z0 :: (.int .i64 c) :: z2 :: z3 :: z4 :: z5 :: z6 :: z7 :: z8 :: z9 :: z10 :: (.slice (some ⟨G, 0, none⟩) ss.length ss.length) :: (.slice (some ⟨gr, 0, none⟩) N.length cr) :: z13 :: z14 :: z15 :: z16 :: z17 :: (.slice (some ⟨gn2, 0, none⟩) M2.length cn2) :: (.slice (some ⟨gm2, 0, none⟩) M2.length cm2) :: (.int .i64 (a : Int)) :: z21 :: (.slice fo Fs.length fc) :: (.slice (some ⟨gy, 0, none⟩) ys.length cy) :: (.int .i64 (b : Int)) :: (.int .i64 0) :: z26 :: z27 :: z28 :: z29 :: z30 :: z31 :: z32 :: z33 :: z34 :: z35 :: z36 :: z37 :: z38 :: z39 :: z40 :: z41 :: z42 :: z43 :: z44 :: z45 :: z46 :: z47 :: z48 :: z49 :: z50 :: z51 :: z52 :: z53 :: z54 :: z55 :: z56 :: z57 :: z58 :: z59 :: z60 :: z61 :: z62 :: z63 :: z64 :: z65 :: z66 :: z67 :: z68 :: z69 :: z70 :: z71 :: z72 :: z73 :: z74 :: z75 :: z76 :: z77 :: z78 :: z79 :: z80 :: z81 :: z82 :: z83 :: z84 :: z85 :: z86 :: z87 :: z88 :: z89 :: z90 :: z91 :: z92 :: z93 :: z94 :: z95 :: z96 :: z97 :: z98 :: z99 :: z100 :: z101 :: z102 :: z103 :: z104 :: z105 :: z106 :: z107 :: z108 :: z109 :: z110 :: z111 :: z112 :: z113 :: z114 :: z115 :: z116 :: z117 :: z118 :: z119 :: z120 :: z121 :: z122 :: z123 :: z124 :: z125 :: z126 :: z127 :: z128 :: z129 :: z130 :: z131 :: z132 :: z133 :: z134 :: z135 :: z136 :: z137 :: z138 :: z139 :: z140 :: z141 :: z142 :: z143 :: z144 :: z145 :: z146 :: z147 :: z148 :: z149 :: z150 :: z151 :: z152 :: z153 :: z154 :: z155 :: z156 :: z157 :: z158 :: z159 :: z160 :: z161 :: z162 :: z163 :: z164 :: z165 :: z166 :: z167 :: z168 :: z169 :: z170 :: z171 :: z172 :: z173 :: z174 :: z175 :: z176 :: z177 :: z178 :: z179 :: z180 :: z181 :: z182 :: z183 :: z184 :: z185 :: z186 :: z187 :: z188 :: z189 :: z190 :: z191 :: z192 :: z193 :: z194 :: z195 :: z196 :: z197 :: z198 :: z199 :: z200 :: z201 :: z202 :: z203 :: z204 :: z205 :: z206 :: z207 :: z208 :: z209 :: z210 :: z211 :: z212 :: z213 :: z214 :: z215 :: z216 :: z217 :: z218 :: z219 :: z220 :: z221 :: z222 :: z223 :: z224 :: z225 :: z226 :: z227 :: z228 :: z229 :: z230 :: z231 :: z232 :: z233 :: z234 :: z235 :: z236 :: z237 :: z238 :: z239 :: z240 :: z241 :: z242 :: z243 :: z244 :: z245 :: z246 :: z247 :: z248 :: z249 :: z250 :: z251 :: z252 :: z253 :: z254 :: z255 :: z256 :: z257 :: z258 :: z259 :: z260 :: z261 :: z262 :: z263 :: z264 :: z265 :: z266 :: z267 :: z268 :: z269 :: z270 :: z271 :: z272 :: z273 :: z274 :: z275 :: z276 :: z277 :: z278 :: z279 :: z280 :: z281 :: z282 :: z283 :: z284 :: z285 :: z286 :: z287 :: z288 :: z289 :: z290 :: z291 :: z292 :: z293 :: z294 :: z295 :: z296 :: z297 :: z298 :: z299 :: z300 :: z301 :: z302 :: z303 :: z304 :: z305 :: z306 :: z307 :: z308 :: z309 :: z310 :: z311 :: ([] : List Value)), []⟩ wr := by
  obtain ⟨i0, hi0, hz0, hz1, hz2⟩ := info_parts infoInt
  obtain ⟨ip, hip, hq0, hq1, hq2⟩ := info_parts infoInt
  obtain ⟨i1, hjS, hy0, hy1, hy2⟩ := info_parts infoSlice
  have HX : Hid _ := hexit
  have hbnd := HP.out.bound
  clear hexit
  conv => arg 2; arg 1; whnf
  go_loopw [18, 19, 25] (fun nv mv dv wq => ∃ (d : Nat) (M3 : List Itm) (gn3 cn3 gm3 cm3 : Nat) (us4 : List Value), d ≤ Fs.length ∧ dv = .int .i64 d ∧ nv = .slice (some ⟨gn3, 0, none⟩) M3.length cn3 ∧ mv = .slice (some ⟨gm3, 0, none⟩) M3.length cm3 ∧ NS wy w4 F0 F1 M3 gn3 cn3 gm3 cm3 us4 wq ∧ MinOf (fun z => (FI c ss seen (N.take a) z ∨ FK seen e (ys.take b) Fs z) ∨ FJ seen e (yn : Int) (Fs.take d) z) M3) (fun _ _ dv _ => Fs.length - (intOf dv).toNat)
  case atStart => exact ⟨0, M2, gn2, cn2, gm2, cm2, us3, Nat.zero_le _, rfl, rfl, rfl, HS2.out, minJ_start HM2.out⟩
  case round =>
    obtain ⟨d, M3, gn3, cn3, gm3, cm3, us4, hd, rfl, rfl, rfl, hS3, hM3⟩ := hrel
    have HS3 : Hid _ := hS3
    have HM3 : Hid _ := hM3
    clear hS3 hM3 HS2 HM2
    by_cases hld : d < Fs.length
    · have hld' : (d : Int) < (Fs.length : Int) := by omega
      have hd0 : (0 : Int) ≤ (d : Int) := by omega
      obtain ⟨t0, ht0, hFt⟩ := HFM2.out Fs[d] (List.getElem_mem hld)
      have HFT : Hid (Fs[d] = (t0 : Int)) := hFt
      obtain ⟨gu, uc', hu2, q1, q2⟩ := HFV.out.form (by omega)
      have hue : fo = some ⟨gu, 0, none⟩ := by cases hu2; rfl
      subst hue
      have hgul := HFV.out.lt gu rfl
      rw [hF1] at hgul
      have HCU : Hid (w4.cell? ⟨gu, d, none⟩ = some (.int .i64 (t0 : Int))) := by
        show w4.cell? _ = _
        rw [HFV.out.cellAt d (by omega)]
        simp [ints, hld, hFt]
      have e1 := HS3.out.cellF (p := ⟨gy, b, none⟩) hgy0 hgy1 HCY.out
      have e2 := HS3.out.cellF (p := ⟨gu, d, none⟩) hgul.1 hgul.2 HCU.out
      have hsl := HP.out.len
      have e3 := (HP.out.sat.cell yn (by omega)).1
      have e3 := (HS3.out.old.cell (World.block_lt_of_cell? wy _ e3)).trans e3
      have hsmq := SM.out yn
      have HBQ : Hid (∀ b, bit (seen.getD yn 0) t0 = b → bit (seen.getD ((yn : Int)).toNat 0) ((t0 : Int)).toNat = b) := fun b h => h
      obtain ⟨q, hq⟩ : ∃ q, seen.getD yn 0 = q := ⟨_, rfl⟩
      rw [hq] at e3 hsmq HBQ
      have hbt := bit_tmod t0 hsmq
      have hnn := hsmq.1
      have ht0' : (t0 : Int) < 7 := by omega
      have ht00 : (0 : Int) ≤ (t0 : Int) := by omega
      have hu64 : IntKind.u64.wrap (t0 : Int) = (t0 : Int) := by
        have hc : t0 = 0 ∨ t0 = 1 ∨ t0 = 2 ∨ t0 = 3 ∨ t0 = 4 ∨ t0 = 5 ∨ t0 = 6 := by omega
        rcases hc with rfl | rfl | rfl | rfl | rfl | rfl | rfl <;> rfl
      have HE1 : Hid _ := e1
      have HE2 : Hid _ := e2
      have e1 := cell_regrown e1
      have e2 := cell_regrown e2
      have e3 := cell_regrown e3
      clear hFt hu2 q1 q2 hq hsl
      cases hbit : bit q t0
      · rw [hbit] at hbt
        simp only [Bool.false_eq_true, if_false] at hbt
        have HBF : Hid _ := HBQ.out _ hbit
        clear hbit HBQ
        go_wp2
        refine wp_region_quiet_below (by kernel_rfl) (by kernel_rfl) ?_
        repeat (go_big_quiet_step (fail))
        refine wpQuiet_nil ?_
        intro _ hw'
        obtain ⟨⟨dq5, osq5⟩, hw''⟩ := hw'
        subst hw''
        have BW5 := below_regrown wr dq5 osq5
        have HS5 : Hid _ := HS3.out.below BW5
        have f1 := (BW5.cell (World.block_lt_of_cell? wr _ HE1.out)).trans HE1.out
        clear e1 e2 e3 BW5 HE1 HE2
        go_wp2_with fail
        generalize Go.Sort.grow (redrawn wr dq5) osq5 = w5 at *
        have HEO5 : Hid (w5.ownsRow (G + 1) 2 1 (.slice (some ⟨ea, 0, none⟩) MM ca) MM (ints e.1)) := by
          have := own_kept HEO.out HS5.out.old
          rw [HMM.out] at this
          exact this
        have f2 : w5.cell? ⟨gr, a, none⟩ = some (.slice (some ⟨ea, 0, none⟩) MM ca) := by
          have h := (HS5.out.old.cell (World.block_lt_of_cell? wy _ HCW.out)).trans HCW.out
          rw [HMM.out] at h
          exact h
        have zf1 := World.block_lt_of_cell? w5 _ f1
        have zf2 := World.block_lt_of_cell? w5 _ f2
        simp only at zf1 zf2
        refine later4 (F := fun x1 x2 x3 nv z => Below w5.heap.size w5 z ∧ z.ownsRow w5.heap.size 2 1 nv (MM + 1) (ints e.1 ++ [.int .i64 (yn : Int)])) (R := ?PLg) (fun hk => ?regg) ?restg
        case regg =>
          refine wp_region_held_drew (S := fun w' => w'.cell? ⟨gr, a, none⟩ = some (.slice (some ⟨ea, 0, none⟩) MM ca) ∧ w'.cell? ⟨gy, b, none⟩ = some (.int .i64 (yn : Int))) (by kernel_rfl) ⟨f2, f1⟩ (fun hHeld => ?_)
          refine wpAnyH_take (i := 1) (oi := ?oig1) (v := .slice (some ⟨gr, 0, none⟩) N.length cr) ?hig1 (by kernel_rfl) (by kernel_rfl) (by kernel_rfl) ?hqg1 ?hyg1 hHeld ?hrg1
          case hig1 =>
            simp only [List.getElem?_toArray, List.getElem?_cons_succ, List.getElem?_cons_zero]
            rfl
          case hqg1 => exact fun _ _ _ h => HQP.out _ _ _ _ _ h
          case hyg1 => exact Or.inl ⟨by kernel_rfl, fun w hSw => by go_simp⟩
          try simp only [Act.put, List.setIfInBounds_toArray, List.set_cons_zero, List.set_cons_succ]
          refine wpAnyH_take (i := 2) (oi := ?oig2) (v := .int .i64 (a : Int)) ?hig2 (by kernel_rfl) (by kernel_rfl) (by kernel_rfl) ?hqg2 ?hyg2 hHeld ?hrg2
          case hig2 =>
            simp only [List.getElem?_toArray, List.getElem?_cons_succ, List.getElem?_cons_zero]
            rfl
          case hqg2 => exact fun _ _ _ h => HQP.out _ _ _ _ _ h
          case hyg2 => exact Or.inl ⟨by kernel_rfl, fun w hSw => by go_simp⟩
          try simp only [Act.put, List.setIfInBounds_toArray, List.set_cons_zero, List.set_cons_succ]
          refine wpAnyH_take (i := 3) (oi := ?oig3) (v := .pointer (some ⟨gr, a, none⟩)) ?hig3 (by kernel_rfl) (by kernel_rfl) (by kernel_rfl) ?hqg3 ?hyg3 hHeld ?hrg3
          case hig3 =>
            simp only [List.getElem?_toArray, List.getElem?_cons_succ, List.getElem?_cons_zero]
            rfl
          case hqg3 => exact fun _ _ _ h => HQP.out _ _ _ _ _ h
          case hyg3 => exact Or.inl ⟨by kernel_rfl, fun w hSw => by go_simp⟩
          try simp only [Act.put, List.setIfInBounds_toArray, List.set_cons_zero, List.set_cons_succ]
          refine wpAnyH_take (i := 4) (oi := ?oig4) (v := .slice (some ⟨ea, 0, none⟩) MM ca) ?hig4 (by kernel_rfl) (by kernel_rfl) (by kernel_rfl) ?hqg4 ?hyg4 hHeld ?hrg4
          case hig4 =>
            simp only [List.getElem?_toArray, List.getElem?_cons_succ, List.getElem?_cons_zero]
            rfl
          case hqg4 => exact fun _ _ _ h => HQP.out _ _ _ _ _ h
          case hyg4 => exact Or.inl ⟨by kernel_rfl, fun w hSw => by obtain ⟨s1, s2⟩ := hSw; go_simp⟩
          try simp only [Act.put, List.setIfInBounds_toArray, List.set_cons_zero, List.set_cons_succ]
          refine wpAnyH_take (i := 6) (oi := ?oig6) (v := .slice (some ⟨gy, 0, none⟩) ys.length cy) ?hig6 (by kernel_rfl) (by kernel_rfl) (by kernel_rfl) ?hqg6 ?hyg6 hHeld ?hrg6
          case hig6 =>
            simp only [List.getElem?_toArray, List.getElem?_cons_succ, List.getElem?_cons_zero]
            rfl
          case hqg6 => exact fun _ _ _ h => HQP.out _ _ _ _ _ h
          case hyg6 => exact Or.inl ⟨by kernel_rfl, fun w hSw => by go_simp⟩
          try simp only [Act.put, List.setIfInBounds_toArray, List.set_cons_zero, List.set_cons_succ]
          refine wpAnyH_take (i := 7) (oi := ?oig7) (v := .int .i64 (b : Int)) ?hig7 (by kernel_rfl) (by kernel_rfl) (by kernel_rfl) ?hqg7 ?hyg7 hHeld ?hrg7
          case hig7 =>
            simp only [List.getElem?_toArray, List.getElem?_cons_succ, List.getElem?_cons_zero]
            rfl
          case hqg7 => exact fun _ _ _ h => HQP.out _ _ _ _ _ h
          case hyg7 => exact Or.inl ⟨by kernel_rfl, fun w hSw => by go_simp⟩
          try simp only [Act.put, List.setIfInBounds_toArray, List.set_cons_zero, List.set_cons_succ]
          refine wpAnyH_take (i := 8) (oi := ?oig8) (v := .pointer (some ⟨gy, b, none⟩)) ?hig8 (by kernel_rfl) (by kernel_rfl) (by kernel_rfl) ?hqg8 ?hyg8 hHeld ?hrg8
          case hig8 =>
            simp only [List.getElem?_toArray, List.getElem?_cons_succ, List.getElem?_cons_zero]
            rfl
          case hqg8 => exact fun _ _ _ h => HQP.out _ _ _ _ _ h
          case hyg8 => exact Or.inl ⟨by kernel_rfl, fun w hSw => by go_simp⟩
          try simp only [Act.put, List.setIfInBounds_toArray, List.set_cons_zero, List.set_cons_succ]
          refine wpAnyH_take (i := 9) (oi := ?oig9) (v := .int .i64 (yn : Int)) ?hig9 (by kernel_rfl) (by kernel_rfl) (by kernel_rfl) ?hqg9 ?hyg9 hHeld ?hrg9
          case hig9 =>
            simp only [List.getElem?_toArray, List.getElem?_cons_succ, List.getElem?_cons_zero]
            rfl
          case hqg9 => exact fun _ _ _ h => HQP.out _ _ _ _ _ h
          case hyg9 => exact Or.inl ⟨by kernel_rfl, fun w hSw => by obtain ⟨s1, s2⟩ := hSw; go_simp⟩
          try simp only [Act.put, List.setIfInBounds_toArray, List.set_cons_zero, List.set_cons_succ]
          refine wpAnyH_ready (rs := [0, 10]) (by kernel_rfl) (by simp) ?_
          refine (AllReadyH.cons (o := ?oog0) ?hog0 (fun K hK => ?hkg0) (AllReadyH.cons (o := ?oog10) ?hog10 (fun K hK => ?hkg10) AllReadyH.nil))
          case hog0 =>
            simp only [List.getElem?_toArray, List.getElem?_cons_succ, List.getElem?_cons_zero]
            rfl
          case hog10 =>
            simp only [List.getElem?_toArray, List.getElem?_cons_succ, List.getElem?_cons_zero]
            rfl
          case hkg0 =>
            go_simp
            try go_wp2_with fail
            have bz : Below w5.heap.size w5 (w5.alloc (.cells #[] 2)).drew := by go_grown
            have Ba : Hid (Below w5.heap.size w5 (w5.alloc (.cells #[] 2)).drew) := Below.trans (Below.refl _ _) (bz.mono (Nat.le_refl _))
            have Va : Hid ((w5.alloc (.cells #[] 2)).drew.ownsRow w5.heap.size 2 1 (.slice (some ⟨w5.heap.size, 0, none⟩) 0 0) 0 []) := own_mono (World.ownsRow_made w5 #[] 0 (Nat.le_refl _) (by unfold maxLen; omega) rfl) (Nat.le_refl _)
            have qa : w5.heap.size < (w5.alloc (.cells #[] 2)).drew.heap.size := by simp
            generalize (w5.alloc (.cells #[] 2)).drew = wa at *
            clear bz
            refine hK.out _ _ ⟨(Ba.out.cell zf2).trans f2, (Ba.out.cell zf1).trans f1⟩ (fun hHeld => ?_)
            clear hK K
            try simp only [Act.put, List.setIfInBounds_toArray, List.set_cons_zero, List.set_cons_succ]
            refine wpAnyH_ready (rs := [5, 10]) (by kernel_rfl) (by simp) ?_
            refine (AllReadyH.cons (o := ?ooga5) ?hoga5 (fun K hK => ?hkga5) (AllReadyH.cons (o := ?ooga10) ?hoga10 (fun K hK => ?hkga10) AllReadyH.nil))
            case hoga5 =>
              simp only [List.getElem?_toArray, List.getElem?_cons_succ, List.getElem?_cons_zero]
              rfl
            case hoga10 =>
              simp only [List.getElem?_toArray, List.getElem?_cons_succ, List.getElem?_cons_zero]
              rfl
            case hkga5 =>
              refine step_append_row rfl (.tmp 207) (.tmp 211) 26 rfl w5.heap.size 2 ip (.int .i64 0) 1 8 Try.underlying26 hip hq0 hq1 hq2 rfl (by decide) (.slice (some ⟨w5.heap.size, 0, none⟩) 0 0) 0 [] rfl Va.out (.slice (some ⟨ea, 0, none⟩) MM ca) (G + 1) MM (ints e.1) rfl (own_kept HEO5.out Ba.out) (ints_oneCell _) (by unfold maxLen; omega) (by omega) Ba.out.size ?_
              intro v6 w6 own6 grow6
              have V6 : Hid (w6.ownsRow w5.heap.size 2 1 v6 MM (ints e.1)) := by (have hh := own6; rw [Nat.zero_add, List.nil_append] at hh; exact hh)
              have B6 : Hid (Below w5.heap.size w5 w6) := Ba.out.grown grow6 Ba.out.size (fun k hk => Nat.le_trans (Nat.le_refl _) (Nat.le_of_eq (Option.some.inj (show some w5.heap.size = some k from hk))))
              clear own6 grow6
              refine hK.out _ _ ⟨(B6.out.cell zf2).trans f2, (B6.out.cell zf1).trans f1⟩ (fun hHeld => ?_)
              clear hK K
              try simp only [Act.put, List.setIfInBounds_toArray, List.set_cons_zero, List.set_cons_succ]
              refine wpAnyH_ready (rs := [10]) (by kernel_rfl) (by simp) ?_
              refine (AllReadyH.cons (o := ?oogaa10) ?hogaa10 (fun K hK => ?hkgaa10) AllReadyH.nil)
              case hogaa10 =>
                simp only [List.getElem?_toArray, List.getElem?_cons_succ, List.getElem?_cons_zero]
                rfl
              case hkgaa10 =>
                go_simp
                try go_wp2_with fail
                have bz : Below w6.heap.size w6 (w6.alloc (.cells #[.int .i64 (yn : Int)] 2)) := by go_grown
                have Bc : Hid (Below w5.heap.size w5 (w6.alloc (.cells #[.int .i64 (yn : Int)] 2))) := Below.trans B6.out (bz.mono B6.out.size)
                have Lc : Hid ((w6.alloc (.cells #[.int .i64 (yn : Int)] 2)).heap[w6.heap.size]? = some (.cells #[.int .i64 (yn : Int)] 2 (0, 0))) := heap_alloc_new w6 (.cells #[.int .i64 (yn : Int)] 2)
                have qc : w6.heap.size < (w6.alloc (.cells #[.int .i64 (yn : Int)] 2)).heap.size := by simp
                have Vc : Hid ((w6.alloc (.cells #[.int .i64 (yn : Int)] 2)).ownsRow w5.heap.size 2 1 (v6) MM (ints e.1)) := own_kept V6.out bz
                generalize (w6.alloc (.cells #[.int .i64 (yn : Int)] 2)) = wc at *
                clear bz
                refine hK.out _ _ ⟨(Bc.out.cell zf2).trans f2, (Bc.out.cell zf1).trans f1⟩ (fun hHeld => ?_)
                clear hK K
                try simp only [Act.put, List.setIfInBounds_toArray, List.set_cons_zero, List.set_cons_succ]
                refine wpAnyH_ready (rs := [11]) (by kernel_rfl) (by simp) ?_
                refine (AllReadyH.cons (o := ?oogaa11) ?hogaa11 (fun K hK => ?hkgaa11) AllReadyH.nil)
                case hogaa11 =>
                  simp only [List.getElem?_toArray, List.getElem?_cons_succ, List.getElem?_cons_zero]
                  rfl
                case hkgaa11 =>
                  refine step_append_lies _ rfl (.tmp 212) (.tmp 217) 26 rfl w5.heap.size 2 ip (.int .i64 0) 1 8 Try.underlying26 hip hq0 hq1 hq2 rfl (by decide) v6 MM _ rfl Vc.out ⟨w6.heap.size, 0, none⟩ 1 1 [.int .i64 (yn : Int)] rfl rfl (World.news_of_block Lc.out) (ints_oneCell [(yn : Int)]) (by omega) (by unfold maxLen; omega) (by omega) Bc.out.size _ rfl ?_
                  intro g9 cp9 w9 own9 grow9 hat9 hlt9
                  have V9 : Hid (w9.ownsRow w5.heap.size 2 1 (.slice (some ⟨g9, 0, none⟩) (MM + 1) cp9) (MM + 1) (ints e.1 ++ [.int .i64 (yn : Int)])) := own9
                  have B9 : Hid (Below w5.heap.size w5 w9) := Bc.out.grown grow9 Bc.out.size (fun k hk => (Vc.out.lt k hk).1)
                  clear own9 grow9 hat9 hlt9
                  refine hK.out _ _ ⟨(B9.out.cell zf2).trans f2, (B9.out.cell zf1).trans f1⟩ (fun hHeld => ?_)
                  clear hK K
                  try simp only [Act.put, List.setIfInBounds_toArray, List.set_cons_zero, List.set_cons_succ]
                  refine wpAnyH_take (i := 12) (oi := ?oigaa12) (v := .slice (some ⟨g9, 0, none⟩) (MM + 1) cp9) ?higaa12 (by kernel_rfl) (by kernel_rfl) (by kernel_rfl) ?hqgaa12 ?hygaa12 hHeld ?hrgaa12
                  case higaa12 =>
                    simp only [List.getElem?_toArray, List.getElem?_cons_succ, List.getElem?_cons_zero]
                    rfl
                  case hqgaa12 => exact fun _ _ _ h => HQP.out _ _ _ _ _ h
                  case hygaa12 => exact Or.inl ⟨by kernel_rfl, fun w hSw => by go_simp⟩
                  try simp only [Act.put, List.setIfInBounds_toArray, List.set_cons_zero, List.set_cons_succ]
                  refine wpAnyH_done (by kernel_rfl) ?_ _
                  generalize Value.slice (some ⟨g9, 0, none⟩) (MM + 1) cp9 = nv at *
                  generalize Value.slice (some ⟨w6.heap.size, 0, none⟩) 1 1 = x44 at *
                  generalize Value.slice (some ⟨w5.heap.size, 0, none⟩) 0 0 = x37 at *
                  exact hk x37 v6 x44 nv w9 ⟨B9.out, V9.out⟩
            case hkga10 =>
              go_simp
              try go_wp2_with fail
              have bz : Below wa.heap.size wa (wa.alloc (.cells #[.int .i64 (yn : Int)] 2)) := by go_grown
              have Bc : Hid (Below w5.heap.size w5 (wa.alloc (.cells #[.int .i64 (yn : Int)] 2))) := Below.trans Ba.out (bz.mono Ba.out.size)
              have Lc : Hid ((wa.alloc (.cells #[.int .i64 (yn : Int)] 2)).heap[wa.heap.size]? = some (.cells #[.int .i64 (yn : Int)] 2 (0, 0))) := heap_alloc_new wa (.cells #[.int .i64 (yn : Int)] 2)
              have qc : wa.heap.size < (wa.alloc (.cells #[.int .i64 (yn : Int)] 2)).heap.size := by simp
              have Vc : Hid ((wa.alloc (.cells #[.int .i64 (yn : Int)] 2)).ownsRow w5.heap.size 2 1 (.slice (some ⟨w5.heap.size, 0, none⟩) 0 0) 0 ([])) := own_kept Va.out bz
              generalize (wa.alloc (.cells #[.int .i64 (yn : Int)] 2)) = wc at *
              clear bz
              refine hK.out _ _ ⟨(Bc.out.cell zf2).trans f2, (Bc.out.cell zf1).trans f1⟩ (fun hHeld => ?_)
              clear hK K
              try simp only [Act.put, List.setIfInBounds_toArray, List.set_cons_zero, List.set_cons_succ]
              refine wpAnyH_ready (rs := [5]) (by kernel_rfl) (by simp) ?_
              refine (AllReadyH.cons (o := ?oogab5) ?hogab5 (fun K hK => ?hkgab5) AllReadyH.nil)
              case hogab5 =>
                simp only [List.getElem?_toArray, List.getElem?_cons_succ, List.getElem?_cons_zero]
                rfl
              case hkgab5 =>
                refine step_append_row rfl (.tmp 207) (.tmp 211) 26 rfl w5.heap.size 2 ip (.int .i64 0) 1 8 Try.underlying26 hip hq0 hq1 hq2 rfl (by decide) (.slice (some ⟨w5.heap.size, 0, none⟩) 0 0) 0 [] rfl Vc.out (.slice (some ⟨ea, 0, none⟩) MM ca) (G + 1) MM (ints e.1) rfl (own_kept HEO5.out Bc.out) (ints_oneCell _) (by unfold maxLen; omega) (by omega) Bc.out.size ?_
                intro v6 w6 own6 grow6
                have V6 : Hid (w6.ownsRow w5.heap.size 2 1 v6 MM (ints e.1)) := by (have hh := own6; rw [Nat.zero_add, List.nil_append] at hh; exact hh)
                have B6 : Hid (Below w5.heap.size w5 w6) := Bc.out.grown grow6 Bc.out.size (fun k hk => Nat.le_trans (Nat.le_refl _) (Nat.le_of_eq (Option.some.inj (show some w5.heap.size = some k from hk))))
                have L6 : Hid (w6.heap[wa.heap.size]? = _) := (grow6.block _ qc (fun e => absurd (Option.some.inj (show some (wa.heap.size) = some (w5.heap.size) from e)) (by omega))).trans Lc.out
                clear own6 grow6
                refine hK.out _ _ ⟨(B6.out.cell zf2).trans f2, (B6.out.cell zf1).trans f1⟩ (fun hHeld => ?_)
                clear hK K
                try simp only [Act.put, List.setIfInBounds_toArray, List.set_cons_zero, List.set_cons_succ]
                refine wpAnyH_ready (rs := [11]) (by kernel_rfl) (by simp) ?_
                refine (AllReadyH.cons (o := ?oogab11) ?hogab11 (fun K hK => ?hkgab11) AllReadyH.nil)
                case hogab11 =>
                  simp only [List.getElem?_toArray, List.getElem?_cons_succ, List.getElem?_cons_zero]
                  rfl
                case hkgab11 =>
                  refine step_append_lies _ rfl (.tmp 212) (.tmp 217) 26 rfl w5.heap.size 2 ip (.int .i64 0) 1 8 Try.underlying26 hip hq0 hq1 hq2 rfl (by decide) v6 MM _ rfl V6.out ⟨wa.heap.size, 0, none⟩ 1 1 [.int .i64 (yn : Int)] rfl rfl (World.news_of_block L6.out) (ints_oneCell [(yn : Int)]) (by omega) (by unfold maxLen; omega) (by omega) B6.out.size _ rfl ?_
                  intro g9 cp9 w9 own9 grow9 hat9 hlt9
                  have V9 : Hid (w9.ownsRow w5.heap.size 2 1 (.slice (some ⟨g9, 0, none⟩) (MM + 1) cp9) (MM + 1) (ints e.1 ++ [.int .i64 (yn : Int)])) := own9
                  have B9 : Hid (Below w5.heap.size w5 w9) := B6.out.grown grow9 B6.out.size (fun k hk => (V6.out.lt k hk).1)
                  clear own9 grow9 hat9 hlt9
                  refine hK.out _ _ ⟨(B9.out.cell zf2).trans f2, (B9.out.cell zf1).trans f1⟩ (fun hHeld => ?_)
                  clear hK K
                  try simp only [Act.put, List.setIfInBounds_toArray, List.set_cons_zero, List.set_cons_succ]
                  refine wpAnyH_take (i := 12) (oi := ?oigab12) (v := .slice (some ⟨g9, 0, none⟩) (MM + 1) cp9) ?higab12 (by kernel_rfl) (by kernel_rfl) (by kernel_rfl) ?hqgab12 ?hygab12 hHeld ?hrgab12
                  case higab12 =>
                    simp only [List.getElem?_toArray, List.getElem?_cons_succ, List.getElem?_cons_zero]
                    rfl
                  case hqgab12 => exact fun _ _ _ h => HQP.out _ _ _ _ _ h
                  case hygab12 => exact Or.inl ⟨by kernel_rfl, fun w hSw => by go_simp⟩
                  try simp only [Act.put, List.setIfInBounds_toArray, List.set_cons_zero, List.set_cons_succ]
                  refine wpAnyH_done (by kernel_rfl) ?_ _
                  generalize Value.slice (some ⟨g9, 0, none⟩) (MM + 1) cp9 = nv at *
                  generalize Value.slice (some ⟨wa.heap.size, 0, none⟩) 1 1 = x44 at *
                  generalize Value.slice (some ⟨w5.heap.size, 0, none⟩) 0 0 = x37 at *
                  exact hk x37 v6 x44 nv w9 ⟨B9.out, V9.out⟩
          case hkg10 =>
            go_simp
            try go_wp2_with fail
            have bz : Below w5.heap.size w5 (w5.alloc (.cells #[.int .i64 (yn : Int)] 2)).drew := by go_grown
            have Bb : Hid (Below w5.heap.size w5 (w5.alloc (.cells #[.int .i64 (yn : Int)] 2)).drew) := Below.trans (Below.refl _ _) (bz.mono (Nat.le_refl _))
            have Lb : Hid ((w5.alloc (.cells #[.int .i64 (yn : Int)] 2)).drew.heap[w5.heap.size]? = some (.cells #[.int .i64 (yn : Int)] 2 (0, 0))) := heap_alloc_new w5 (.cells #[.int .i64 (yn : Int)] 2)
            have qb : w5.heap.size < (w5.alloc (.cells #[.int .i64 (yn : Int)] 2)).drew.heap.size := by simp
            generalize (w5.alloc (.cells #[.int .i64 (yn : Int)] 2)).drew = wb at *
            clear bz
            refine hK.out _ _ ⟨(Bb.out.cell zf2).trans f2, (Bb.out.cell zf1).trans f1⟩ (fun hHeld => ?_)
            clear hK K
            try simp only [Act.put, List.setIfInBounds_toArray, List.set_cons_zero, List.set_cons_succ]
            refine wpAnyH_ready (rs := [0]) (by kernel_rfl) (by simp) ?_
            refine (AllReadyH.cons (o := ?oogb0) ?hogb0 (fun K hK => ?hkgb0) AllReadyH.nil)
            case hogb0 =>
              simp only [List.getElem?_toArray, List.getElem?_cons_succ, List.getElem?_cons_zero]
              rfl
            case hkgb0 =>
              go_simp
              try go_wp2_with fail
              have bz : Below wb.heap.size wb (wb.alloc (.cells #[] 2)) := by go_grown
              have Ba : Hid (Below w5.heap.size w5 (wb.alloc (.cells #[] 2))) := Below.trans Bb.out (bz.mono Bb.out.size)
              have Va : Hid ((wb.alloc (.cells #[] 2)).ownsRow w5.heap.size 2 1 (.slice (some ⟨wb.heap.size, 0, none⟩) 0 0) 0 []) := own_mono (World.ownsRow_made wb #[] 0 (Nat.le_refl _) (by unfold maxLen; omega) rfl) Bb.out.size
              have qa : wb.heap.size < (wb.alloc (.cells #[] 2)).heap.size := by simp
              have La : Hid ((wb.alloc (.cells #[] 2)).heap[w5.heap.size]? = _) := (bz.block _ qb).trans Lb.out
              generalize (wb.alloc (.cells #[] 2)) = wa at *
              clear bz
              have ql : w5.heap.size < wa.heap.size := by omega
              refine hK.out _ _ ⟨(Ba.out.cell zf2).trans f2, (Ba.out.cell zf1).trans f1⟩ (fun hHeld => ?_)
              clear hK K
              try simp only [Act.put, List.setIfInBounds_toArray, List.set_cons_zero, List.set_cons_succ]
              refine wpAnyH_ready (rs := [5]) (by kernel_rfl) (by simp) ?_
              refine (AllReadyH.cons (o := ?oogb5) ?hogb5 (fun K hK => ?hkgb5) AllReadyH.nil)
              case hogb5 =>
                simp only [List.getElem?_toArray, List.getElem?_cons_succ, List.getElem?_cons_zero]
                rfl
              case hkgb5 =>
                refine step_append_row rfl (.tmp 207) (.tmp 211) 26 rfl w5.heap.size 2 ip (.int .i64 0) 1 8 Try.underlying26 hip hq0 hq1 hq2 rfl (by decide) (.slice (some ⟨wb.heap.size, 0, none⟩) 0 0) 0 [] rfl Va.out (.slice (some ⟨ea, 0, none⟩) MM ca) (G + 1) MM (ints e.1) rfl (own_kept HEO5.out Ba.out) (ints_oneCell _) (by unfold maxLen; omega) (by omega) Ba.out.size ?_
                intro v6 w6 own6 grow6
                have V6 : Hid (w6.ownsRow w5.heap.size 2 1 v6 MM (ints e.1)) := by (have hh := own6; rw [Nat.zero_add, List.nil_append] at hh; exact hh)
                have B6 : Hid (Below w5.heap.size w5 w6) := Ba.out.grown grow6 Ba.out.size (fun k hk => Nat.le_trans Bb.out.size (Nat.le_of_eq (Option.some.inj (show some wb.heap.size = some k from hk))))
                have L6 : Hid (w6.heap[w5.heap.size]? = _) := (grow6.block _ ql (fun e => absurd (Option.some.inj (show some (w5.heap.size) = some (wb.heap.size) from e)) (by omega))).trans La.out
                clear own6 grow6
                refine hK.out _ _ ⟨(B6.out.cell zf2).trans f2, (B6.out.cell zf1).trans f1⟩ (fun hHeld => ?_)
                clear hK K
                try simp only [Act.put, List.setIfInBounds_toArray, List.set_cons_zero, List.set_cons_succ]
                refine wpAnyH_ready (rs := [11]) (by kernel_rfl) (by simp) ?_
                refine (AllReadyH.cons (o := ?oogb11) ?hogb11 (fun K hK => ?hkgb11) AllReadyH.nil)
                case hogb11 =>
                  simp only [List.getElem?_toArray, List.getElem?_cons_succ, List.getElem?_cons_zero]
                  rfl
                case hkgb11 =>
                  refine step_append_lies _ rfl (.tmp 212) (.tmp 217) 26 rfl w5.heap.size 2 ip (.int .i64 0) 1 8 Try.underlying26 hip hq0 hq1 hq2 rfl (by decide) v6 MM _ rfl V6.out ⟨w5.heap.size, 0, none⟩ 1 1 [.int .i64 (yn : Int)] rfl rfl (World.news_of_block L6.out) (ints_oneCell [(yn : Int)]) (by omega) (by unfold maxLen; omega) (by omega) B6.out.size _ rfl ?_
                  intro g9 cp9 w9 own9 grow9 hat9 hlt9
                  have V9 : Hid (w9.ownsRow w5.heap.size 2 1 (.slice (some ⟨g9, 0, none⟩) (MM + 1) cp9) (MM + 1) (ints e.1 ++ [.int .i64 (yn : Int)])) := own9
                  have B9 : Hid (Below w5.heap.size w5 w9) := B6.out.grown grow9 B6.out.size (fun k hk => (V6.out.lt k hk).1)
                  clear own9 grow9 hat9 hlt9
                  refine hK.out _ _ ⟨(B9.out.cell zf2).trans f2, (B9.out.cell zf1).trans f1⟩ (fun hHeld => ?_)
                  clear hK K
                  try simp only [Act.put, List.setIfInBounds_toArray, List.set_cons_zero, List.set_cons_succ]
                  refine wpAnyH_take (i := 12) (oi := ?oigb12) (v := .slice (some ⟨g9, 0, none⟩) (MM + 1) cp9) ?higb12 (by kernel_rfl) (by kernel_rfl) (by kernel_rfl) ?hqgb12 ?hygb12 hHeld ?hrgb12
                  case higb12 =>
                    simp only [List.getElem?_toArray, List.getElem?_cons_succ, List.getElem?_cons_zero]
                    rfl
                  case hqgb12 => exact fun _ _ _ h => HQP.out _ _ _ _ _ h
                  case hygb12 => exact Or.inl ⟨by kernel_rfl, fun w hSw => by go_simp⟩
                  try simp only [Act.put, List.setIfInBounds_toArray, List.set_cons_zero, List.set_cons_succ]
                  refine wpAnyH_done (by kernel_rfl) ?_ _
                  generalize Value.slice (some ⟨g9, 0, none⟩) (MM + 1) cp9 = nv at *
                  generalize Value.slice (some ⟨w5.heap.size, 0, none⟩) 1 1 = x44 at *
                  generalize Value.slice (some ⟨wb.heap.size, 0, none⟩) 0 0 = x37 at *
                  exact hk x37 v6 x44 nv w9 ⟨B9.out, V9.out⟩
        case restg =>
          rintro x1 x2 x3 nv y5 ⟨by_, oy_⟩
          obtain ⟨gw, cw, hnv, qw1, qw2⟩ := oy_.form (by omega)
          subst hnv
          have HW5 : Hid (y5.ownsRow w5.heap.size 2 1 (.slice (some ⟨gw, 0, none⟩) (MM + 1) cw) (MM + 1) (ints (e.1 ++ [(yn : Int)]))) := by
            show y5.ownsRow _ _ _ _ _ _
            rw [ints_append]
            exact oy_
          have HS6 : Hid _ := HS5.out.below by_
          have hgm3 := HS5.out.ltm
          have hwm : gm3 ≠ gw := by omega
          have hel : e.1.length = L := by rw [HE.out.2.1, HE.out.2.2.2.2]
          have HML : Hid (∀ z ∈ M3, ItmOk ss.length (L + 1) z) := fun z hz => by
            rcases HM3.out.isC z hz with (h | h) | h
            · exact fi_ok hok HP.out.lay h
            · exact fk_ok hel (fun y hy => HYS.out y (List.mem_of_mem_take hy)) HFM2.out h
            · exact fj_ok hel hynl (fun x hx => HFM2.out x (List.mem_of_mem_take hx)) h
          have hm84 : M3.length ≤ 84 := by
            have := items_len (n := ss.length) (N := M3) (fun z hz => (HML.out z hz).2) HM3.out.uniq
            omega
          have HM3L : Hid (∀ z ∈ M3, z.1.length = MM + 1) := fun z hz => by
            have h1 := (HML.out z hz).1
            have h2 := HE.out.2.2.2.2
            have h3 := HMM.out
            omega
          have HXL : Hid ((e.1 ++ [(yn : Int)]).length = MM + 1) := by
            show (e.1 ++ [(yn : Int)]).length = MM + 1
            rw [List.length_append, HE.out.2.1, HMM.out]; rfl
          have k1 := HS6.out.cellF (p := ⟨gy, b, none⟩) hgy0 hgy1 HCY.out
          have k2 := HS6.out.cellF (p := ⟨gu, d, none⟩) hgul.1 hgul.2 HCU.out
          have HYS5 := HS5.out.old.size
          have hgw5 : w5.heap.size ≤ gw := qw1
          clear by_ oy_ hel f1 f2 zf1 zf2 HEO5 HS3 qw1 qw2 hgm3
          go_wp2_with fail
          go_loopw [27, 28] (fun bv kv wq => ∃ k : Nat, k ≤ M3.length ∧ kv = .int .i64 k ∧ Below y5.heap.size y5 wq ∧ ((bv = .int .i64 (-1) ∧ ∀ j z, j < k → M3[j]? = some z → ¬ (lastI z.1 = (yn : Int) ∧ z.2 = (t0 : Int))) ∨ ∃ b' z, b' < k ∧ bv = .int .i64 (b' : Int) ∧ M3[b']? = some z ∧ lastI z.1 = (yn : Int) ∧ z.2 = (t0 : Int))) (fun _ kv _ => M3.length - (intOf kv).toNat)
          case atStart => exact ⟨0, Nat.zero_le _, rfl, Below.refl _ _, .inl ⟨rfl, fun j z h => by omega⟩⟩
          case round =>
            obtain ⟨k, hk5, rfl, hB5, hbv⟩ := hrel
            have HBV : Hid _ := hbv
            have HB5 : Hid (Below y5.heap.size y5 wr) := hB5
            by_cases hlk5 : k < M3.length
            · have hlk5' : (k : Int) < (M3.length : Int) := by omega
              obtain ⟨z, az, caz, hz, d1, d2, d3, _, _⟩ := (HS6.out.below hB5).item HM3L.out hlk5
              have d4 := cell_regrown ((hB5.cell (World.block_lt_of_cell? y5 _ k1)).trans k1)
              have d5 := cell_regrown ((hB5.cell (World.block_lt_of_cell? y5 _ k2)).trans k2)
              obtain ⟨M9, hM9⟩ : ∃ M9, MM + 1 = M9 := ⟨_, rfl⟩
              rw [hM9] at d1
              have hMm9 : (M9 : Int) - 1 = (MM : Int) := by omega
              have hmM9 : (MM : Int) < (M9 : Int) := by omega
              have hmw9 : IntKind.i64.wrap (MM : Int) = (MM : Int) := IntWalk.i64_in _ (by omega)
              have hk50 : (0 : Int) ≤ (k : Int) := by omega
              have hMM0 : (0 : Int) ≤ (MM : Int) := by omega
              obtain ⟨x, hx⟩ : ∃ x, lastI z.1 = x := ⟨_, rfl⟩
              obtain ⟨x', hx'⟩ : ∃ x', z.2 = x' := ⟨_, rfl⟩
              rw [hx] at d2
              rw [hx'] at d3
              have d1 := cell_regrown d1
              have d2 := cell_regrown d2
              have d3 := cell_regrown d3
              have HX : Hid (lastI z.1 = x ∧ z.2 = x' ∧ M3[k]? = some z) := ⟨hx, hx', hz⟩
              clear hx hx' hz hM9 hbv hB5
              by_cases hb1 : x = (yn : Int)
              · have hb1t : (x == (yn : Int)) = true := by simpa using hb1
                by_cases hb2 : x' = (t0 : Int)
                · have hb2t : (x' == (t0 : Int)) = true := by simpa using hb2
                  go_wp2
                  refine wp_region_quiet_below (by kernel_rfl) (by kernel_rfl) ?_
                  repeat (go_big_quiet_step (fail))
                  refine wpQuiet_nil ?_
                  intro _ hw'
                  obtain ⟨⟨dq6, osq6⟩, hw''⟩ := hw'
                  subst hw''
                  have BW6 := below_regrown wr dq6 osq6
                  go_wp2
                  go_roundw
                  case rel => exact ⟨k + 1, by omega, by go_num, HB5.out.trans (BW6.mono HB5.out.size), .inr ⟨k, z, by omega, rfl, HX.out.2.2, by rw [HX.out.1]; exact hb1, by rw [HX.out.2.1]; exact hb2⟩⟩
                  case measure => simp [intOf]; omega
                · have hb2f : (x' == (t0 : Int)) = false := by simpa using hb2
                  go_wp2
                  refine wp_region_quiet_below (by kernel_rfl) (by kernel_rfl) ?_
                  repeat (go_big_quiet_step (fail))
                  refine wpQuiet_nil ?_
                  intro _ hw'
                  obtain ⟨⟨dq6, osq6⟩, hw''⟩ := hw'
                  subst hw''
                  have BW6 := below_regrown wr dq6 osq6
                  go_wp2
                  go_roundw
                  case rel =>
                    refine ⟨k + 1, by omega, by go_num, HB5.out.trans (BW6.mono HB5.out.size), ?_⟩
                    rcases HBV.out with ⟨h1, h2⟩ | ⟨b', e', hb', h1, h2⟩
                    · refine .inl ⟨h1, fun j e' hj hN' => ?_⟩
                      by_cases hjk : j < k
                      · exact h2 j e' hjk hN'
                      · obtain rfl : j = k := by omega
                        rw [HX.out.2.2] at hN'
                        obtain rfl : z = e' := by simpa using hN'
                        rw [HX.out.2.1]
                        exact fun h => hb2 h.2
                    · exact .inr ⟨b', e', by omega, h1, h2⟩
                  case measure => simp [intOf]; omega
              · have hb1f : (x == (yn : Int)) = false := by simpa using hb1
                go_wp2
                refine wp_region_quiet_below (by kernel_rfl) (by kernel_rfl) ?_
                repeat (go_big_quiet_step (fail))
                refine wpQuiet_nil ?_
                intro _ hw'
                obtain ⟨⟨dq6, osq6⟩, hw''⟩ := hw'
                subst hw''
                have BW6 := below_regrown wr dq6 osq6
                go_wp2
                go_roundw
                case rel =>
                  refine ⟨k + 1, by omega, by go_num, HB5.out.trans (BW6.mono HB5.out.size), ?_⟩
                  rcases HBV.out with ⟨h1, h2⟩ | ⟨b', e', hb', h1, h2⟩
                  · refine .inl ⟨h1, fun j e' hj hN' => ?_⟩
                    by_cases hjk : j < k
                    · exact h2 j e' hjk hN'
                    · obtain rfl : j = k := by omega
                      rw [HX.out.2.2] at hN'
                      obtain rfl : z = e' := by simpa using hN'
                      rw [HX.out.1]
                      exact fun h => hb1 h.1
                  · exact .inr ⟨b', e', by omega, h1, h2⟩
                case measure => simp [intOf]; omega
            · obtain rfl : k = M3.length := by omega
              have hge5 : ¬ (M3.length : Int) < (M3.length : Int) := by omega
              have HS7 : Hid _ := HS6.out.below hB5
              have hs57 := hB5.size
              have HW7 : Hid (wr.ownsRow wy.heap.size 2 1 (.slice (some ⟨gw, 0, none⟩) (MM + 1) cw) (MM + 1) (ints (e.1 ++ [(yn : Int)]))) := own_mono (own_kept HW5.out hB5) HYS5
              have k7 := (hB5.cell (World.block_lt_of_cell? y5 _ k2)).trans k2
              have hfst : (M3.map Prod.fst).length = M3.length := by simp
              have hsnd : (M3.map Prod.snd).length = M3.length := by simp
              have hown : wr.ownsRow wy.heap.size 26 1 (.slice (some ⟨gn3, 0, none⟩) M3.length cn3) M3.length us4 := by
                have := HS7.out.mem.row.row
                rw [hfst] at this
                exact this
              have hfac : wr.ownsRow wy.heap.size 2 1 (.slice (some ⟨gm3, 0, none⟩) M3.length cm3) M3.length (ints (M3.map Prod.snd)) := by
                have := HS7.out.mem.fac
                rw [hsnd] at this
                exact this
              have HOWN : Hid _ := hown
              have HFAC : Hid _ := hfac
              have hgnm : gn3 ≠ gm3 := fun h => row_kind hfac hown (by decide) (k := gm3) rfl (by rw [h]; rfl)
              have hold := HS7.out.old.size
              have hngu : gn3 ≠ gu := by
                have := HS7.out.offn
                have := hgul.1
                have := hgul.2
                omega
              have hap : ∀ j, (Value.slice (some ⟨gw, 0, none⟩) (MM + 1) cw).ownBlock = some j → gm3 ≠ j := fun j hj h => by
                have : gw = j := by simpa [Value.ownBlock] using hj
                omega
              have HAP : Hid _ := hap
              clear hap hown hfac hfst hsnd hB5 HBV k1 k2 HS6 HB5
              rcases hbv with ⟨rfl, hno5⟩ | ⟨b', z, hb', rfl, hz, z1, z2⟩
              · have HNN : Hid (∀ z ∈ M3, ¬ (lastI z.1 = lastI (e.1 ++ [(yn : Int)]) ∧ z.2 = (t0 : Int))) := fun z hz h => by
                  obtain ⟨j, hj⟩ := List.getElem?_of_mem hz
                  exact hno5 j z ((List.getElem?_eq_some_iff.1 hj).1) hj ⟨h.1.trans (lastI_snoc _ _), h.2⟩
                have HBA : Hid (Below wr.heap.size wr (wr.alloc (.cells #[.slice (some ⟨gw, 0, none⟩) (MM + 1) cw] 26))) := by
                  show Below _ _ _
                  go_grown
                clear hno5
                go_wp2_with (first | (at_builtin; refine stop_ofJ ?_))
                unfold StopJ
                refine wpList_append_lies _ rfl (.tmp 256) (.tmp 258) 45 rfl wy.heap.size 26 i1 (.slice none 0 0) 1 24 Try.underlying45 hjS hy0 hy1 hy2 rfl (by decide) (.slice (some ⟨gn3, 0, none⟩) M3.length cn3) M3.length us4 rfl (own_kept HOWN.out HBA.out) ⟨wr.heap.size, 0, none⟩ 1 1 [.slice (some ⟨gw, 0, none⟩) (MM + 1) cw] rfl rfl (World.news_of_block (heap_alloc_new wr (.cells #[.slice (some ⟨gw, 0, none⟩) (MM + 1) cw] 26))) (by intro y hy; simp at hy; subst hy; rfl) (by decide) (by unfold maxLen; omega) (by omega) (by simp; omega) _ rfl ?_
                intro g8 c8 w8 own8 grow8 pl8 lt8
                have G8 : Hid (wr.grownBy w8 (some gn3)) := grown_trans (grown_of_below HBA.out (some gn3)) grow8
                have cu8 : w8.cell? ⟨gu, d, none⟩ = some (.int .i64 (t0 : Int)) := G8.out.cell k7 (fun h => hngu (by simpa using h.symm))
                have fac8 : Hid (w8.ownsRow wy.heap.size 2 1 (.slice (some ⟨gm3, 0, none⟩) M3.length cm3) M3.length (ints (M3.map Prod.snd))) := own_same HFAC.out (fun j hj => by
                  have hjm : gm3 = j := by simpa [Value.ownBlock] using hj
                  subst hjm
                  exact G8.out.block gm3 (World.ownsRow.lt HFAC.out gm3 hj).2 (fun h => hgnm (by simpa using h.symm)))
                have z8 : wr.heap.size ≤ w8.heap.size := G8.out.size
                go_wp2_with (first | (at_builtin; refine stop_ofJ ?_))
                unfold StopJ
                refine wpList_append_lies _ rfl (.tmp 260) (.tmp 265) 26 rfl wy.heap.size 2 i0 (.int .i64 0) 1 8 Try.underlying26 hi0 hz0 hz1 hz2 rfl (by decide) (.slice (some ⟨gm3, 0, none⟩) M3.length cm3) M3.length (ints (M3.map Prod.snd)) rfl (fac8.out.alloc _) ⟨w8.heap.size, 0, none⟩ 1 1 [.int .i64 (t0 : Int)] rfl rfl (cell_one w8 _) (ints_oneCell [(t0 : Int)]) (by decide) (by unfold maxLen; omega) (by omega) (by simp; omega) _ rfl ?_
                intro g9 c9 w9 own9 grow9 pl9 lt9
                have bB : Below w8.heap.size w8 (w8.alloc (.cells #[.int .i64 (t0 : Int)] 2)) := by go_grown
                have HS9 : Hid (NS wy w4 F0 F1 (M3 ++ [(e.1 ++ [(yn : Int)], (t0 : Int))]) g8 c8 g9 c9 (us4 ++ [.slice (some ⟨gw, 0, none⟩) (MM + 1) cw]) w9) :=
                  HS7.out.new (x := (e.1 ++ [(yn : Int)], (t0 : Int))) (by show wr.ownsRow _ _ _ _ (e.1 ++ [(yn : Int)]).length _; rw [HXL.out]; exact HW7.out) HAP.out HBA.out own8 grow8 (pl8.imp (fun h => by simpa [Value.ownBlock] using h) id) bB own9 grow9 (pl9.imp (fun h => by simpa [Value.ownBlock] using h) id)
                clear own8 grow8 pl8 own9 grow9 pl9 bB cu8 fac8 G8 z8 lt8 lt9
                go_wp2
                go_roundw
                case rel => exact ⟨d + 1, _, g8, c8, g9, c9, _, by omega, by go_num, by simp, by simp, HS9.out, minJ hld HFT.out HBF.out (HM3.out.new (e.1 ++ [(yn : Int)], (t0 : Int)) HNN.out)⟩
                case measure => simp [intOf]; omega
              · have hb'' : (b' : Int) < (M3.length : Int) := by omega
                have hbneg : ¬ (b' : Int) < 0 := by omega
                have hb'0 : (0 : Int) ≤ (b' : Int) := by omega
                obtain ⟨z', az, caz, hz', d1, _, _, _, oz⟩ := HS7.out.item HM3L.out hb'
                obtain rfl : z = z' := by rw [hz] at hz'; simpa using hz'
                have hzl := HM3L.out z (List.mem_of_getElem? hz)
                have hll := fun W (hW : Below wr.heap.size wr W) => l8Less (e.1 ++ [(yn : Int)]) z.1 (by rw [HXL.out, hzl]) (.slice (some ⟨gw, 0, none⟩) (MM + 1) cw) (.slice (some ⟨az, 0, none⟩) (MM + 1) caz) W (by rw [HXL.out]; unfold maxLen; omega) (reads_own (own_kept HW7.out hW)) (reads_own (own_kept oz hW))
                have HZ : Hid (M3[b']? = some z ∧ lastI z.1 = lastI (e.1 ++ [(yn : Int)]) ∧ z.2 = (t0 : Int) ∧ (e.1 ++ [(yn : Int)]).length = z.1.length) := ⟨hz, z1.trans (lastI_snoc _ _).symm, z2, by rw [HXL.out, hzl]⟩
                clear hz hz' z1 z2 hzl
                go_wp2_with fail
                go_at_call 26
                refine (hll _ (Below.refl _ _)).mono ?_
                rintro e9 w8 ⟨rfl, b8⟩
                have HS8 : Hid _ := HS7.out.below b8
                have HW8 : Hid _ := own_kept HW7.out b8
                have d8 := (b8.cell (World.block_lt_of_cell? wr _ d1)).trans d1
                have f8 := (own_kept HOWN.out b8).frozenAt b'
                clear hll b8 d1 oz
                cases hlx : lexB (e.1 ++ [(yn : Int)]) z.1
                · have HLX : Hid (wle z.1 (e.1 ++ [(yn : Int)])) := by
                    show wlt _ _ = false
                    rw [wlt_lex HZ.out.2.2.2]
                    exact hlx
                  clear hlx
                  go_wp2
                  go_roundw
                  case rel => exact ⟨d + 1, M3, gn3, cn3, gm3, cm3, us4, by omega, by go_num, rfl, rfl, HS8.out, minJ hld HFT.out HBF.out (HM3.out.keep (e.1 ++ [(yn : Int)], (t0 : Int)) z (List.mem_of_getElem? HZ.out.1) HZ.out.2.1 HZ.out.2.2.1 HLX.out)⟩
                  case measure => simp [intOf]; omega
                · have HLX : Hid (wlt (e.1 ++ [(yn : Int)]) z.1 = true) := by
                    show wlt _ _ = true
                    rw [wlt_lex HZ.out.2.2.2]
                    exact hlx
                  clear hlx
                  go_wp2_with fail
                  have HS9 : Hid _ := HS8.out.put (x := (e.1 ++ [(yn : Int)], (t0 : Int))) HZ.out.1 HZ.out.2.2.1 (by show w8.ownsRow _ _ _ _ (e.1 ++ [(yn : Int)]).length _; rw [HXL.out]; exact HW8.out) HAP.out
                  go_roundw
                  case rel => exact ⟨d + 1, _, gn3, cn3, gm3, cm3, _, by omega, by go_num, by rw [List.length_set], by rw [List.length_set], HS9.out, minJ hld HFT.out HBF.out (HM3.out.put (e.1 ++ [(yn : Int)], (t0 : Int)) z b' HZ.out.1 HZ.out.2.1 HZ.out.2.2.1 HLX.out)⟩
                  case measure => simp [intOf]; omega
      · rw [hbit] at hbt
        simp only [if_true] at hbt
        have HBT : Hid _ := HBQ.out _ hbit
        clear hbit HBQ
        go_wp2
        refine wp_region_quiet_below (by kernel_rfl) (by kernel_rfl) ?_
        repeat (go_big_quiet_step (fail))
        refine wpQuiet_nil ?_
        intro _ hw'
        obtain ⟨⟨dq5, osq5⟩, hw''⟩ := hw'
        subst hw''
        have HS5 : Hid _ := HS3.out.below (below_regrown wr dq5 osq5)
        clear e1 e2 e3 HE1 HE2
        go_wp2
        go_roundw
        case rel => exact ⟨d + 1, M3, gn3, cn3, gm3, cm3, us4, by omega, by go_num, rfl, rfl, HS5.out, minJ_skip hld HFT.out HBT.out HM3.out⟩
        case measure => simp [intOf]; omega
    · obtain rfl : d = Fs.length := by omega
      have hge2 : ¬ (Fs.length : Int) < (Fs.length : Int) := by omega
      go_wp2
      exact HX.out _ _ _ _ _ _ _ _ _ _ _ _ _ _ _ _ _ _ _ _ _ _ _ _ _ _ _ _ _ _ _ _ _ _ _ _ _ _ _ _ _ _ _ _ _ _ _ _ _ _ _ _ _ _ _ _ _ _ _ _ _ _ _ _ _ _ _ _ _ _ _ _ _ _ _ _ _ _ _ _ _ _ _ _ _ _ _ _ _ _ _ _ _ _ _ _ _ _ _ _ _ HS3.out HM3.out


end Go.Proofs.Ytciccbbgamklbaa
