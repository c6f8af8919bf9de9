/- Lemmas that the proof stands on, in build order: ShaS4 ShaS5 ShaS HmcR Min HmcD RgA RgD. -/
import Derived.ArgAppend
import Derived.Laws.IdiomStrings
import Derived.Laws.IdiomCopy
import Derived.StillTailTactics
import Derived.Deep.RegionHeld3
import Derived.RegionTactic
import Derived.Test.YtdfmikamafbabaaDoorJ13ff1b1
import Derived.Test.YtdfmikamafbabaaDoorJ3e8b768
/- Layer 7 (sha): the reference's Sum: its rounds. -/
namespace Go.Proofs.YtdfmikamafbabaaDoor.Sha
open Go.RowKit

attribute [local go_sem] wi_xor wi_and wi_or wi_add wi_shr3 wi_shr10 wi_com

set_option maxHeartbeats 6400000 in
set_option maxRecDepth 1000000 in
theorem loop_rounds {Q0 : Exit → Act → World → Prop} {s0 s1 s2 s4 s5 s6 s8 s9 s10 s11 s12 s13 s16 s17 s18 s19 s20 s21 s22 s23 s24 s25 s26 s27 s28 s29 s30 s31 s32 s33 s34 s35 s36 s37 s38 s39 s40 s41 s42 s43 s44 s45 s46 s47 s48 s49 s50 s51 s52 s53 s54 s55 s56 s57 s58 s59 s60 s61 s62 s63 s64 s65 s66 s67 s68 s69 s70 s71 s72 s73 s74 s75 s76 s77 s78 s79 s80 s81 s82 s83 s84 s85 s86 s87 s88 s89 s90 s91 s92 s93 s94 s95 s96 s97 s98 s99 s100 s101 s102 s103 s104 s105 s106 s107 s108 s109 s110 s111 s112 s113 s114 s115 s116 s117 s118 s119 s120 s121 s122 s123 s124 s125 s126 s127 s128 s129 s130 s131 s132 s133 s134 s135 s136 s137 s138 s139 s140 s141 s142 s143 s144 s145 s146 s147 s148 s149 s150 s151 s152 s153 s154 s155 s156 s157 s158 s159 s160 s161 s162 s163 s164 s165 s166 s167 s168 s169 s170 s171 s172 s173 s174 s175 s176 s177 s178 s179 s180 s181 s182 s183 s184 s185 s186 s187 s188 s189 s190 s191 s192 s193 s194 s195 s196 s197 s198 s199 s200 s201 s202 s203 s204 s205 s206 s207 s208 s209 s210 s211 s212 s213 s214 s215 s216 s217 s218 s219 s220 s221 s222 s223 s224 s225 s226 s227 s228 s229 s230 s231 s232 s233 s234 s235 s236 s237 s238 s239 s240 s241 s242 s243 s244 s245 s246 s247 s248 s249 s250 s251 s252 s253 s254 s255 s256 s257 s258 s259 s260 s261 s262 s263 s264 s265 s266 s267 s268 s269 s270 s271 s272 s273 s274 s275 s276 s277 s278 s279 s280 s281 s282 s283 s284 s285 s286 s287 s288 s289 s290 s291 s292 : Value} {v7 : Value} {w3 w : World} {h ws : List Wd} {Ah : Option Addr} {B0 b1 o1 c1 g4 c4 : Nat}
    (HK : Hid (WRow w3 w3.heap.size (some ⟨b1, o1, none⟩) 64 ks)) (HV4 : Hid (WRow w w.heap.size (some ⟨g4, 0, none⟩) 8 (rounds ks ws h 0))) (HS4 : Hid (Blk w3 B0 Ah h v7 64 ws w))
    (HEX : Hid (∀ (x14 x15 x16 x17 x18 x19 x20 x125 x126 x127 x128 x129 x130 x131 x132 x133 x134 x135 x136 x137 x138 x139 x140 x141 x142 x143 x144 x145 x146 x147 x148 x149 x150 x151 x152 x153 x154 x155 x156 x157 x158 x159 x160 x161 x162 x163 x164 x165 x166 x167 x168 x169 x170 x171 x172 x173 x174 x175 x176 x177 x178 x179 x180 x181 x182 x183 x184 x185 x186 x187 x188 x189 x190 x191 x192 x193 x194 x195 x196 x197 x198 x199 x200 x201 x202 x203 x204 x205 x206 x207 x208 x209 x210 x211 x212 x213 x214 x215 x216 x217 x218 x219 x220 x221 x222 x223 x224 x225 x226 x227 x228 x229 x230 x231 x232 x233 x234 x235 x236 x237 x238 x239 x240 x241 : Value) (wq : World), (∃ bv ov cv : Nat, x14 = .slice (some ⟨bv, ov, none⟩) 8 cv ∧ Hid (WRow wq wq.heap.size (some ⟨bv, ov, none⟩) 8 (rounds ks ws h 64)) ∧ Hid (Blk w3 B0 Ah h v7 64 ws wq)) → Q0 (.exit 8) ⟨List.toArray (s0 :: s1 :: s2 :: .slice (some ⟨b1, o1, none⟩) 64 c1 :: s4 :: s5 :: s6 :: v7 :: s8 :: s9 :: s10 :: s11 :: s12 :: s13 :: x14 :: x15 :: x16 :: x17 :: x18 :: x19 :: x20 :: s21 :: s22 :: s23 :: s24 :: s25 :: s26 :: s27 :: s28 :: s29 :: s30 :: s31 :: s32 :: s33 :: s34 :: s35 :: s36 :: s37 :: s38 :: s39 :: s40 :: s41 :: s42 :: s43 :: s44 :: s45 :: s46 :: s47 :: s48 :: s49 :: s50 :: s51 :: s52 :: s53 :: s54 :: s55 :: s56 :: s57 :: s58 :: s59 :: s60 :: s61 :: s62 :: s63 :: s64 :: s65 :: s66 :: s67 :: s68 :: s69 :: s70 :: s71 :: s72 :: s73 :: s74 :: s75 :: s76 :: s77 :: s78 :: s79 :: s80 :: s81 :: s82 :: s83 :: s84 :: s85 :: s86 :: s87 :: s88 :: s89 :: s90 :: s91 :: s92 :: s93 :: s94 :: s95 :: s96 :: s97 :: s98 :: s99 :: s100 :: s101 :: s102 :: s103 :: s104 :: s105 :: s106 :: s107 :: s108 :: s109 :: s110 :: s111 :: s112 :: s113 :: s114 :: s115 :: s116 :: s117 :: s118 :: s119 :: s120 :: s121 :: s122 :: s123 :: s124 :: x125 :: x126 :: x127 :: x128 :: x129 :: x130 :: x131 :: x132 :: x133 :: x134 :: x135 :: x136 :: x137 :: x138 :: x139 :: x140 :: x141 :: x142 :: x143 :: x144 :: x145 :: x146 :: x147 :: x148 :: x149 :: x150 :: x151 :: x152 :: x153 :: x154 :: x155 :: x156 :: x157 :: x158 :: x159 :: x160 :: x161 :: x162 :: x163 :: x164 :: x165 :: x166 :: x167 :: x168 :: x169 :: x170 :: x171 :: x172 :: x173 :: x174 :: x175 :: x176 :: x177 :: x178 :: x179 :: x180 :: x181 :: x182 :: x183 :: x184 :: x185 :: x186 :: x187 :: x188 :: x189 :: x190 :: x191 :: x192 :: x193 :: x194 :: x195 :: x196 :: x197 :: x198 :: x199 :: x200 :: x201 :: x202 :: x203 :: x204 :: x205 :: x206 :: x207 :: x208 :: x209 :: x210 :: x211 :: x212 :: x213 :: x214 :: x215 :: x216 :: x217 :: x218 :: x219 :: x220 :: x221 :: x222 :: x223 :: x224 :: x225 :: x226 :: x227 :: x228 :: x229 :: x230 :: x231 :: x232 :: x233 :: x234 :: x235 :: x236 :: x237 :: x238 :: x239 :: x240 :: x241 :: s242 :: s243 :: s244 :: s245 :: s246 :: s247 :: s248 :: s249 :: s250 :: s251 :: s252 :: s253 :: s254 :: s255 :: s256 :: s257 :: s258 :: s259 :: s260 :: s261 :: s262 :: s263 :: s264 :: s265 :: s266 :: s267 :: s268 :: s269 :: s270 :: s271 :: s272 :: s273 :: s274 :: s275 :: s276 :: s277 :: s278 :: s279 :: s280 :: s281 :: s282 :: s283 :: s284 :: s285 :: s286 :: s287 :: s288 :: s289 :: s290 :: s291 :: s292 :: []), []⟩ wq)) :
    Code.wp Tryd.prog (Code.loop ((Tryd.f27.body.bind (loopAt 26)).getD .skip)) Q0 ⟨List.toArray (s0 :: s1 :: s2 :: .slice (some ⟨b1, o1, none⟩) 64 c1 :: s4 :: s5 :: s6 :: v7 :: s8 :: s9 :: s10 :: s11 :: s12 :: s13 :: .slice (some ⟨g4, 0, none⟩) 8 c4 :: .int .i64 0 :: s16 :: s17 :: s18 :: s19 :: s20 :: s21 :: s22 :: s23 :: s24 :: s25 :: s26 :: s27 :: s28 :: s29 :: s30 :: s31 :: s32 :: s33 :: s34 :: s35 :: s36 :: s37 :: s38 :: s39 :: s40 :: s41 :: s42 :: s43 :: s44 :: s45 :: s46 :: s47 :: s48 :: s49 :: s50 :: s51 :: s52 :: s53 :: s54 :: s55 :: s56 :: s57 :: s58 :: s59 :: s60 :: s61 :: s62 :: s63 :: s64 :: s65 :: s66 :: s67 :: s68 :: s69 :: s70 :: s71 :: s72 :: s73 :: s74 :: s75 :: s76 :: s77 :: s78 :: s79 :: s80 :: s81 :: s82 :: s83 :: s84 :: s85 :: s86 :: s87 :: s88 :: s89 :: s90 :: s91 :: s92 :: s93 :: s94 :: s95 :: s96 :: s97 :: s98 :: s99 :: s100 :: s101 :: s102 :: s103 :: s104 :: s105 :: s106 :: s107 :: s108 :: s109 :: s110 :: s111 :: s112 :: s113 :: s114 :: s115 :: s116 :: s117 :: s118 :: s119 :: s120 :: s121 :: s122 :: s123 :: s124 :: s125 :: s126 :: s127 :: s128 :: s129 :: s130 :: s131 :: s132 :: s133 :: s134 :: s135 :: s136 :: s137 :: s138 :: s139 :: s140 :: s141 :: s142 :: s143 :: s144 :: s145 :: s146 :: s147 :: s148 :: s149 :: s150 :: s151 :: s152 :: s153 :: s154 :: s155 :: s156 :: s157 :: s158 :: s159 :: s160 :: s161 :: s162 :: s163 :: s164 :: s165 :: s166 :: s167 :: s168 :: s169 :: s170 :: s171 :: s172 :: s173 :: s174 :: s175 :: s176 :: s177 :: s178 :: s179 :: s180 :: s181 :: s182 :: s183 :: s184 :: s185 :: s186 :: s187 :: s188 :: s189 :: s190 :: s191 :: s192 :: s193 :: s194 :: s195 :: s196 :: s197 :: s198 :: s199 :: s200 :: s201 :: s202 :: s203 :: s204 :: s205 :: s206 :: s207 :: s208 :: s209 :: s210 :: s211 :: s212 :: s213 :: s214 :: s215 :: s216 :: s217 :: s218 :: s219 :: s220 :: s221 :: s222 :: s223 :: s224 :: s225 :: s226 :: s227 :: s228 :: s229 :: s230 :: s231 :: s232 :: s233 :: s234 :: s235 :: s236 :: s237 :: s238 :: s239 :: s240 :: s241 :: s242 :: s243 :: s244 :: s245 :: s246 :: s247 :: s248 :: s249 :: s250 :: s251 :: s252 :: s253 :: s254 :: s255 :: s256 :: s257 :: s258 :: s259 :: s260 :: s261 :: s262 :: s263 :: s264 :: s265 :: s266 :: s267 :: s268 :: s269 :: s270 :: s271 :: s272 :: s273 :: s274 :: s275 :: s276 :: s277 :: s278 :: s279 :: s280 :: s281 :: s282 :: s283 :: s284 :: s285 :: s286 :: s287 :: s288 :: s289 :: s290 :: s291 :: s292 :: []), []⟩ w := by
  conv => arg 2; arg 1; whnf
  go_loopw [14, 15] (fun v i wq => ∃ (t bv ov cv : Nat), t ≤ 64 ∧ i = .int .i64 (t : Int) ∧ v = .slice (some ⟨bv, ov, none⟩) 8 cv ∧ Hid (WRow wq wq.heap.size (some ⟨bv, ov, none⟩) 8 (rounds ks ws h t)) ∧ Hid (Blk w3 B0 Ah h v7 64 ws wq)) (fun _ i _ => 64 - (intOf i).toNat)
  case atStart => exact ⟨0, g4, 0, c4, Nat.zero_le _, rfl, rfl, HV4, HS4⟩
  case round =>
    obtain ⟨t, bv, ov, cv, ht, rfl, rfl, HV, HS⟩ := hrel
    by_cases ht64 : t < 64
    · have HRN : Hid (rounds ks ws h (t + 1) = round (rounds ks ws h t) (wat ks t) (wat ws t)) := rfl
      obtain ⟨g7, c7, rfl, hg7, hcw⟩ := HS.out.read (by omega)
      have kw := hcw t ht64
      obtain ⟨_, _, e1, -, kk⟩ := (HK.out.below HS.out.bel).at ht64
      injection e1 with e1
      injection e1 with e1 e2
      subst e1 e2
      have V0 := Lib.hid (V8.of HV.out)
      have hbv : bv < wr.heap.size := by obtain ⟨_, _, e, hb, _⟩ := HV.out.at (show 0 < 8 by omega); injection e with e; injection e with e; subst e; exact hb
      generalize rounds ks ws h t = V at HRN V0 HV
      obtain ⟨wd, hwd⟩ : ∃ a, wat ws t = a := ⟨_, rfl⟩
      obtain ⟨kd, hkd⟩ : ∃ a, wat ks t = a := ⟨_, rfl⟩
      rw [hwd] at kw HRN
      rw [hkd] at kk HRN
      have KW : Hid (∀ q, (wr.drewN q).cell? ⟨g7, t, none⟩ = some (.int .u32 (wi wd)) ∧ (wr.drewN q).cell? ⟨b1, o1 + t, none⟩ = some (.int .u32 (wi kd))) := fun q => ⟨kw, kk⟩
      have hbe : bg1 (wat V 4) = rot (wat V 4) 6 ^^^ rot (wat V 4) 11 ^^^ rot (wat V 4) 25 := rfl
      have hba : bg0 (wat V 0) = rot (wat V 0) 2 ^^^ rot (wat V 0) 13 ^^^ rot (wat V 0) 22 := rfl
      have HBE := Lib.hid hbe
      have HBA := Lib.hid hba
      have k4 := V0.out.c4
      clear hwd hkd hcw kw kk hbe hba
      go_wp2_with fail
      go_quiet ((go_at_call 36; exact Calls.quiet_of (turned_z _ _ (by decide) (by decide) _)))
      rw [← HBE.out]
      have V1 : Hid (V8 (wr.drewN nq) bv ov V) := V0.out.drew
      have HS1 := Lib.hid (HS.out.drew (q := nq))
      have KW1 : Hid (∀ q, ((wr.drewN nq).drewN q).cell? ⟨g7, t, none⟩ = some (.int .u32 (wi wd)) ∧ ((wr.drewN nq).drewN q).cell? ⟨b1, o1 + t, none⟩ = some (.int .u32 (wi kd))) := fun q => KW.out 0
      clear k4 KW V0 HS HV hg7
      have hbv1 : bv < (wr.drewN nq).heap.size := hbv
      clear hbv
      generalize wr.drewN nq = wx at V1 HS1 KW1 hbv1 ⊢
      have k4 := V1.out.c4
      have k5 := V1.out.c5
      have k6 := V1.out.c6
      go_wp2_with fail
      go_quiet (fail)
      have hch : Hid (wat V 4 &&& wat V 5 ^^^ ~~~wat V 4 &&& wat V 6 = cho (wat V 4) (wat V 5) (wat V 6)) := rfl
      rw [hch.out]
      have V2 : Hid (V8 (wx.drewN nq) bv ov V) := V1.out.drew
      have HS2 := Lib.hid (HS1.out.drew (q := nq))
      have KW2 : Hid (∀ q, ((wx.drewN nq).drewN q).cell? ⟨g7, t, none⟩ = some (.int .u32 (wi wd)) ∧ ((wx.drewN nq).drewN q).cell? ⟨b1, o1 + t, none⟩ = some (.int .u32 (wi kd))) := fun q => KW1.out 0
      clear k4 k5 k6 KW1 V1 HS1
      have hbv : bv < (wx.drewN nq).heap.size := hbv1
      clear hbv1
      generalize wx.drewN nq = wy at V2 HS2 KW2 hbv ⊢
      have k7 := V2.out.c7
      have kw : wy.cell? ⟨g7, t, none⟩ = some (.int .u32 (wi wd)) := (KW2.out 0).1
      have kk : wy.cell? ⟨b1, o1 + t, none⟩ = some (.int .u32 (wi kd)) := (KW2.out 0).2
      go_wp2_with fail
      go_quiet (fail)
      have hone : Hid (wat V 7 + bg1 (wat V 4) + cho (wat V 4) (wat V 5) (wat V 6) + kd + wd = one V kd wd) := rfl
      rw [hone.out]
      have V3 : Hid (V8 (wy.drewN nq) bv ov V) := V2.out.drew
      have HS3 := Lib.hid (HS2.out.drew (q := nq))
      have hbv1 : bv < (wy.drewN nq).heap.size := hbv
      clear k7 kw kk KW2 V2 HS2 hbv
      generalize wy.drewN nq = wx at V3 HS3 hbv1 ⊢
      have k0 := V3.out.c0
      go_wp2_with fail
      go_quiet ((go_at_call 36; exact Calls.quiet_of (turned_z _ _ (by decide) (by decide) _)))
      rw [← HBA.out]
      have V4 : Hid (V8 (wx.drewN nq) bv ov V) := V3.out.drew
      have HS4 := Lib.hid (HS3.out.drew (q := nq))
      have hbv : bv < (wx.drewN nq).heap.size := hbv1
      clear k0 V3 HS3 hbv1
      generalize wx.drewN nq = wy at V4 HS4 hbv ⊢
      have k0 := V4.out.c0
      have k1 := V4.out.c1
      have k2 := V4.out.c2
      go_wp2_with fail
      go_quiet (fail)
      have hmj : Hid (wat V 0 &&& wat V 1 ^^^ wat V 0 &&& wat V 2 ^^^ wat V 1 &&& wat V 2 = maj (wat V 0) (wat V 1) (wat V 2)) := rfl
      rw [hmj.out]
      have V5 : Hid (V8 (wy.drewN nq) bv ov V) := V4.out.drew
      have HS5 := Lib.hid (HS4.out.drew (q := nq))
      have hbv1 : bv < (wy.drewN nq).heap.size := hbv
      clear k0 k1 k2 V4 HS4 hbv
      generalize wy.drewN nq = wx at V5 HS5 hbv1 ⊢
      have k0 := V5.out.c0
      have k1 := V5.out.c1
      have k2 := V5.out.c2
      have k3 := V5.out.c3
      have k4 := V5.out.c4
      have k5 := V5.out.c5
      have k6 := V5.out.c6
      have KD : Hid (wx.drew.cell? ⟨bv, ov, none⟩ = some (.int .u32 (wi (wat V 0))) ∧ wx.drew.cell? ⟨bv, ov + 1, none⟩ = some (.int .u32 (wi (wat V 1))) ∧ wx.drew.cell? ⟨bv, ov + 2, none⟩ = some (.int .u32 (wi (wat V 2))) ∧ wx.drew.cell? ⟨bv, ov + 3, none⟩ = some (.int .u32 (wi (wat V 3))) ∧ wx.drew.cell? ⟨bv, ov + 4, none⟩ = some (.int .u32 (wi (wat V 4))) ∧ wx.drew.cell? ⟨bv, ov + 5, none⟩ = some (.int .u32 (wi (wat V 5))) ∧ wx.drew.cell? ⟨bv, ov + 6, none⟩ = some (.int .u32 (wi (wat V 6)))) := ⟨k0, k1, k2, k3, k4, k5, k6⟩
      have KA : Hid (∀ o, (wx.drew.alloc o).cell? ⟨bv, ov, none⟩ = some (.int .u32 (wi (wat V 0))) ∧ (wx.drew.alloc o).cell? ⟨bv, ov + 1, none⟩ = some (.int .u32 (wi (wat V 1))) ∧ (wx.drew.alloc o).cell? ⟨bv, ov + 2, none⟩ = some (.int .u32 (wi (wat V 2))) ∧ (wx.drew.alloc o).cell? ⟨bv, ov + 3, none⟩ = some (.int .u32 (wi (wat V 3))) ∧ (wx.drew.alloc o).cell? ⟨bv, ov + 4, none⟩ = some (.int .u32 (wi (wat V 4))) ∧ (wx.drew.alloc o).cell? ⟨bv, ov + 5, none⟩ = some (.int .u32 (wi (wat V 5))) ∧ (wx.drew.alloc o).cell? ⟨bv, ov + 6, none⟩ = some (.int .u32 (wi (wat V 6)))) := fun o => ⟨(((Below.refl _ wx).drew.alloc (Nat.le_refl _) o).cell (p := ⟨bv, ov, none⟩) hbv1).trans k0, (((Below.refl _ wx).drew.alloc (Nat.le_refl _) o).cell (p := ⟨bv, ov + 1, none⟩) hbv1).trans k1, (((Below.refl _ wx).drew.alloc (Nat.le_refl _) o).cell (p := ⟨bv, ov + 2, none⟩) hbv1).trans k2, (((Below.refl _ wx).drew.alloc (Nat.le_refl _) o).cell (p := ⟨bv, ov + 3, none⟩) hbv1).trans k3, (((Below.refl _ wx).drew.alloc (Nat.le_refl _) o).cell (p := ⟨bv, ov + 4, none⟩) hbv1).trans k4, (((Below.refl _ wx).drew.alloc (Nat.le_refl _) o).cell (p := ⟨bv, ov + 5, none⟩) hbv1).trans k5, (((Below.refl _ wx).drew.alloc (Nat.le_refl _) o).cell (p := ⟨bv, ov + 6, none⟩) hbv1).trans k6⟩
      have HS6 := Lib.hid (HS5.out.drew (q := 1))
      clear V5 HS5 hbv1
      go_wp2_with fail
      go_region_held3 (fun wz => wz.cell? ⟨bv, ov, none⟩ = some (.int .u32 (wi (wat V 0))) ∧ wz.cell? ⟨bv, ov + 1, none⟩ = some (.int .u32 (wi (wat V 1))) ∧ wz.cell? ⟨bv, ov + 2, none⟩ = some (.int .u32 (wi (wat V 2))) ∧ wz.cell? ⟨bv, ov + 3, none⟩ = some (.int .u32 (wi (wat V 3))) ∧ wz.cell? ⟨bv, ov + 4, none⟩ = some (.int .u32 (wi (wat V 4))) ∧ wz.cell? ⟨bv, ov + 5, none⟩ = some (.int .u32 (wi (wat V 5))) ∧ wz.cell? ⟨bv, ov + 6, none⟩ = some (.int .u32 (wi (wat V 6)))) (first | exact KD.out | exact KA.out _) (fail)
      have HNV : Hid (WRow (wx.drew.alloc (.cells #[.int .u32 (wi (one V kd wd + bg0 (wat V 0) + maj (wat V 0) (wat V 1) (wat V 2))), .int .u32 (wi (wat V 0)), .int .u32 (wi (wat V 1)), .int .u32 (wi (wat V 2)), .int .u32 (wi (wat V 3 + one V kd wd)), .int .u32 (wi (wat V 4)), .int .u32 (wi (wat V 5)), .int .u32 (wi (wat V 6))] 64)) (wx.heap.size + 1) (some ⟨wx.heap.size, 0, none⟩) 8 (round V kd wd)) := by
        have := lit8 wx.drew 64 (one V kd wd + bg0 (wat V 0) + maj (wat V 0) (wat V 1) (wat V 2)) (wat V 0) (wat V 1) (wat V 2) (wat V 3 + one V kd wd) (wat V 4) (wat V 5) (wat V 6)
        rw [World.size_alloc] at this
        exact this
      have HNS := Lib.hid (HS6.out.below ((Below.refl _ _).alloc (Nat.le_refl _) (.cells #[.int .u32 (wi (one V kd wd + bg0 (wat V 0) + maj (wat V 0) (wat V 1) (wat V 2))), .int .u32 (wi (wat V 0)), .int .u32 (wi (wat V 1)), .int .u32 (wi (wat V 2)), .int .u32 (wi (wat V 3 + one V kd wd)), .int .u32 (wi (wat V 4)), .int .u32 (wi (wat V 5)), .int .u32 (wi (wat V 6))] 64)))
      go_wp2
      go_roundw
      case rel => exact ⟨t + 1, wx.heap.size, 0, 8, by omega, by go_num, rfl, by rw [HRN.out]; exact Row.drew (lit8 wx _ _ _ _ _ _ _ _ _), HNS⟩
      case measure => simp [intOf]; omega
    · obtain rfl : t = 64 := by omega
      go_wp2_with fail
      exact HEX.out _ _ _ _ _ _ _ _ _ _ _ _ _ _ _ _ _ _ _ _ _ _ _ _ _ _ _ _ _ _ _ _ _ _ _ _ _ _ _ _ _ _ _ _ _ _ _ _ _ _ _ _ _ _ _ _ _ _ _ _ _ _ _ _ _ _ _ _ _ _ _ _ _ _ _ _ _ _ _ _ _ _ _ _ _ _ _ _ _ _ _ _ _ _ _ _ _ _ _ _ _ _ _ _ _ _ _ _ _ _ _ _ _ _ _ _ _ _ _ _ _ _ _ _ _ ⟨bv, ov, cv, rfl, HV, HS⟩
end Go.Proofs.YtdfmikamafbabaaDoor.Sha

/- Layer 7 (sha): the reference's Sum: its sums. -/
namespace Go.Proofs.YtdfmikamafbabaaDoor.Sha
open Go.RowKit

attribute [local go_sem] wi_xor wi_and wi_or wi_add wi_shr3 wi_shr10 wi_com

set_option maxHeartbeats 6400000 in
set_option maxRecDepth 1000000 in
theorem loop_adds {Q0 : Exit → Act → World → Prop} {s0 s1 s2 s3 s5 s6 s7 s8 s9 s10 s11 s12 s13 s15 s16 s17 s18 s19 s20 s23 s24 s25 s26 s27 s28 s29 s30 s31 s32 s33 s34 s35 s36 s37 s38 s39 s40 s41 s42 s43 s44 s45 s46 s47 s48 s49 s50 s51 s52 s53 s54 s55 s56 s57 s58 s59 s60 s61 s62 s63 s64 s65 s66 s67 s68 s69 s70 s71 s72 s73 s74 s75 s76 s77 s78 s79 s80 s81 s82 s83 s84 s85 s86 s87 s88 s89 s90 s91 s92 s93 s94 s95 s96 s97 s98 s99 s100 s101 s102 s103 s104 s105 s106 s107 s108 s109 s110 s111 s112 s113 s114 s115 s116 s117 s118 s119 s120 s121 s122 s123 s124 s125 s126 s127 s128 s129 s130 s131 s132 s133 s134 s135 s136 s137 s138 s139 s140 s141 s142 s143 s144 s145 s146 s147 s148 s149 s150 s151 s152 s153 s154 s155 s156 s157 s158 s159 s160 s161 s162 s163 s164 s165 s166 s167 s168 s169 s170 s171 s172 s173 s174 s175 s176 s177 s178 s179 s180 s181 s182 s183 s184 s185 s186 s187 s188 s189 s190 s191 s192 s193 s194 s195 s196 s197 s198 s199 s200 s201 s202 s203 s204 s205 s206 s207 s208 s209 s210 s211 s212 s213 s214 s215 s216 s217 s218 s219 s220 s221 s222 s223 s224 s225 s226 s227 s228 s229 s230 s231 s232 s233 s234 s235 s236 s237 s238 s239 s240 s241 s242 s243 s244 s245 s246 s247 s248 s249 s250 s251 s252 s253 s254 s255 s256 s257 s258 s259 s260 s261 s262 s263 s264 s265 s266 s267 s268 s269 s270 s271 s272 s273 s274 s275 s276 s277 s278 s279 s280 s281 s282 s283 s284 s285 s286 s287 s288 s289 s290 s291 s292 : Value} {w3 w : World} {h R : List Wd} {B1 bh oh ch bv ov cv : Nat}
    (HA0 : Hid (Sm w3 B1 bh oh h bv ov R (.slice none 0 0) 0 w))
    (HEX : Hid (∀ (x21 x22 x242 x243 x244 x245 x246 x247 x248 x249 x250 x251 x252 x253 x254 x255 x256 x257 : Value) (wq : World), Hid (Sm w3 B1 bh oh h bv ov R x21 8 wq) → Q0 (.exit 10) ⟨List.toArray (s0 :: s1 :: s2 :: s3 :: .slice (some ⟨bh, oh, none⟩) 8 ch :: s5 :: s6 :: s7 :: s8 :: s9 :: s10 :: s11 :: s12 :: s13 :: .slice (some ⟨bv, ov, none⟩) 8 cv :: s15 :: s16 :: s17 :: s18 :: s19 :: s20 :: x21 :: x22 :: s23 :: s24 :: s25 :: s26 :: s27 :: s28 :: s29 :: s30 :: s31 :: s32 :: s33 :: s34 :: s35 :: s36 :: s37 :: s38 :: s39 :: s40 :: s41 :: s42 :: s43 :: s44 :: s45 :: s46 :: s47 :: s48 :: s49 :: s50 :: s51 :: s52 :: s53 :: s54 :: s55 :: s56 :: s57 :: s58 :: s59 :: s60 :: s61 :: s62 :: s63 :: s64 :: s65 :: s66 :: s67 :: s68 :: s69 :: s70 :: s71 :: s72 :: s73 :: s74 :: s75 :: s76 :: s77 :: s78 :: s79 :: s80 :: s81 :: s82 :: s83 :: s84 :: s85 :: s86 :: s87 :: s88 :: s89 :: s90 :: s91 :: s92 :: s93 :: s94 :: s95 :: s96 :: s97 :: s98 :: s99 :: s100 :: s101 :: s102 :: s103 :: s104 :: s105 :: s106 :: s107 :: s108 :: s109 :: s110 :: s111 :: s112 :: s113 :: s114 :: s115 :: s116 :: s117 :: s118 :: s119 :: s120 :: s121 :: s122 :: s123 :: s124 :: s125 :: s126 :: s127 :: s128 :: s129 :: s130 :: s131 :: s132 :: s133 :: s134 :: s135 :: s136 :: s137 :: s138 :: s139 :: s140 :: s141 :: s142 :: s143 :: s144 :: s145 :: s146 :: s147 :: s148 :: s149 :: s150 :: s151 :: s152 :: s153 :: s154 :: s155 :: s156 :: s157 :: s158 :: s159 :: s160 :: s161 :: s162 :: s163 :: s164 :: s165 :: s166 :: s167 :: s168 :: s169 :: s170 :: s171 :: s172 :: s173 :: s174 :: s175 :: s176 :: s177 :: s178 :: s179 :: s180 :: s181 :: s182 :: s183 :: s184 :: s185 :: s186 :: s187 :: s188 :: s189 :: s190 :: s191 :: s192 :: s193 :: s194 :: s195 :: s196 :: s197 :: s198 :: s199 :: s200 :: s201 :: s202 :: s203 :: s204 :: s205 :: s206 :: s207 :: s208 :: s209 :: s210 :: s211 :: s212 :: s213 :: s214 :: s215 :: s216 :: s217 :: s218 :: s219 :: s220 :: s221 :: s222 :: s223 :: s224 :: s225 :: s226 :: s227 :: s228 :: s229 :: s230 :: s231 :: s232 :: s233 :: s234 :: s235 :: s236 :: s237 :: s238 :: s239 :: s240 :: s241 :: x242 :: x243 :: x244 :: x245 :: x246 :: x247 :: x248 :: x249 :: x250 :: x251 :: x252 :: x253 :: x254 :: x255 :: x256 :: x257 :: s258 :: s259 :: s260 :: s261 :: s262 :: s263 :: s264 :: s265 :: s266 :: s267 :: s268 :: s269 :: s270 :: s271 :: s272 :: s273 :: s274 :: s275 :: s276 :: s277 :: s278 :: s279 :: s280 :: s281 :: s282 :: s283 :: s284 :: s285 :: s286 :: s287 :: s288 :: s289 :: s290 :: s291 :: s292 :: []), []⟩ wq)) :
    Code.wp Tryd.prog (Code.loop ((Tryd.f27.body.bind (loopAt 36)).getD .skip)) Q0 ⟨List.toArray (s0 :: s1 :: s2 :: s3 :: .slice (some ⟨bh, oh, none⟩) 8 ch :: s5 :: s6 :: s7 :: s8 :: s9 :: s10 :: s11 :: s12 :: s13 :: .slice (some ⟨bv, ov, none⟩) 8 cv :: s15 :: s16 :: s17 :: s18 :: s19 :: s20 :: .slice none 0 0 :: .int .i64 0 :: s23 :: s24 :: s25 :: s26 :: s27 :: s28 :: s29 :: s30 :: s31 :: s32 :: s33 :: s34 :: s35 :: s36 :: s37 :: s38 :: s39 :: s40 :: s41 :: s42 :: s43 :: s44 :: s45 :: s46 :: s47 :: s48 :: s49 :: s50 :: s51 :: s52 :: s53 :: s54 :: s55 :: s56 :: s57 :: s58 :: s59 :: s60 :: s61 :: s62 :: s63 :: s64 :: s65 :: s66 :: s67 :: s68 :: s69 :: s70 :: s71 :: s72 :: s73 :: s74 :: s75 :: s76 :: s77 :: s78 :: s79 :: s80 :: s81 :: s82 :: s83 :: s84 :: s85 :: s86 :: s87 :: s88 :: s89 :: s90 :: s91 :: s92 :: s93 :: s94 :: s95 :: s96 :: s97 :: s98 :: s99 :: s100 :: s101 :: s102 :: s103 :: s104 :: s105 :: s106 :: s107 :: s108 :: s109 :: s110 :: s111 :: s112 :: s113 :: s114 :: s115 :: s116 :: s117 :: s118 :: s119 :: s120 :: s121 :: s122 :: s123 :: s124 :: s125 :: s126 :: s127 :: s128 :: s129 :: s130 :: s131 :: s132 :: s133 :: s134 :: s135 :: s136 :: s137 :: s138 :: s139 :: s140 :: s141 :: s142 :: s143 :: s144 :: s145 :: s146 :: s147 :: s148 :: s149 :: s150 :: s151 :: s152 :: s153 :: s154 :: s155 :: s156 :: s157 :: s158 :: s159 :: s160 :: s161 :: s162 :: s163 :: s164 :: s165 :: s166 :: s167 :: s168 :: s169 :: s170 :: s171 :: s172 :: s173 :: s174 :: s175 :: s176 :: s177 :: s178 :: s179 :: s180 :: s181 :: s182 :: s183 :: s184 :: s185 :: s186 :: s187 :: s188 :: s189 :: s190 :: s191 :: s192 :: s193 :: s194 :: s195 :: s196 :: s197 :: s198 :: s199 :: s200 :: s201 :: s202 :: s203 :: s204 :: s205 :: s206 :: s207 :: s208 :: s209 :: s210 :: s211 :: s212 :: s213 :: s214 :: s215 :: s216 :: s217 :: s218 :: s219 :: s220 :: s221 :: s222 :: s223 :: s224 :: s225 :: s226 :: s227 :: s228 :: s229 :: s230 :: s231 :: s232 :: s233 :: s234 :: s235 :: s236 :: s237 :: s238 :: s239 :: s240 :: s241 :: s242 :: s243 :: s244 :: s245 :: s246 :: s247 :: s248 :: s249 :: s250 :: s251 :: s252 :: s253 :: s254 :: s255 :: s256 :: s257 :: s258 :: s259 :: s260 :: s261 :: s262 :: s263 :: s264 :: s265 :: s266 :: s267 :: s268 :: s269 :: s270 :: s271 :: s272 :: s273 :: s274 :: s275 :: s276 :: s277 :: s278 :: s279 :: s280 :: s281 :: s282 :: s283 :: s284 :: s285 :: s286 :: s287 :: s288 :: s289 :: s290 :: s291 :: s292 :: []), []⟩ w := by
  conv => arg 2; arg 1; whnf
  obtain ⟨j0, ji, jz0, jz1, jz2⟩ := parts_of info32
  go_loopw [21, 22] (fun v i wq => ∃ t : Nat, t ≤ 8 ∧ i = .int .i64 (t : Int) ∧ Hid (Sm w3 B1 bh oh h bv ov R v t wq)) (fun _ i _ => 8 - (intOf i).toNat)
  case atStart => exact ⟨0, Nat.zero_le _, rfl, HA0⟩
  case round =>
    obtain ⟨t, ht, rfl, HA1⟩ := hrel
    by_cases ht8 : t < 8
    · obtain ⟨_, _, e1, hbh1, kh⟩ := HA1.out.rh.at ht8
      injection e1 with e1
      injection e1 with e1 e2
      subst e1 e2
      obtain ⟨_, _, e1, hbv1, kv⟩ := HA1.out.rv.at ht8
      injection e1 with e1
      injection e1 with e1 e2
      subst e1 e2
      have HD1 := Lib.hid (HA1.out.drew (q := 1))
      have hsz : B1 ≤ wr.drew.heap.size := HD1.out.sz
      have hown : wr.drew.ownsRow B1 64 1 u21 t (((adds h R t).map wi).map (Value.int .u32)) := HD1.out.own
      have HOW := Lib.hid hown
      have KD : Hid (wr.drew.cell? ⟨bh, oh + t, none⟩ = some (.int .u32 (wi (wat h t))) ∧ wr.drew.cell? ⟨bv, ov + t, none⟩ = some (.int .u32 (wi (wat R t)))) := ⟨kh, kv⟩
      have KK : Hid (∀ w', Below B1 wr.drew w' → w'.cell? ⟨bh, oh + t, none⟩ = some (.int .u32 (wi (wat h t))) ∧ w'.cell? ⟨bv, ov + t, none⟩ = some (.int .u32 (wi (wat R t)))) := fun w' hw => ⟨(hw.cell (p := ⟨bh, oh + t, none⟩) hbh1).trans kh, (hw.cell (p := ⟨bv, ov + t, none⟩) hbv1).trans kv⟩
      have KA : Hid (∀ o, Below B1 wr.drew (wr.drew.alloc o)) := fun o => (Below.refl B1 wr.drew).alloc hsz o
      clear hown hbh1 hbv1
      go_wp2_with fail
      go_region_held3 (fun wz => wz.cell? ⟨bh, oh + t, none⟩ = some (.int .u32 (wi (wat h t))) ∧ wz.cell? ⟨bv, ov + t, none⟩ = some (.int .u32 (wi (wat R t)))) (first | exact m0 | exact KD.out | exact KK.out _ (KA.out _)) (first
        | (refine step_push rfl (.tmp 246) (.tmp 256) 62 rfl B1 j0 4 Tryd.underlying62 ji jz0 jz1 jz2 _ t ((adds h R t).map wi) rfl HOW.out rfl (by omega) (by omega) hsz ?_; intro v4 w4 hown4 hb4 _ _; have m0 := KK.out _ hb4; have HOW4 := Lib.hid hown4; have HB4 := Lib.hid hb4; clear hown4 hb4))
      have HA2 := Lib.hid (Sm.push HD1.out HOW4.out HB4.out)
      go_wp2
      go_roundw
      case rel => first | exact ⟨t + 1, by omega, by go_num, HA2⟩ | ((repeat apply Exists.intro); exact ⟨⟨t + 1, by omega, by go_num, HA2⟩, rfl⟩)
      case measure => simp [intOf]; omega
    · obtain rfl : t = 8 := by omega
      go_wp2_with fail
      exact HEX.out _ _ _ _ _ _ _ _ _ _ _ _ _ _ _ _ _ _ _ HA1
end Go.Proofs.YtdfmikamafbabaaDoor.Sha

/- Layer 7 (sha): the reference's Sum, as a contract. -/
namespace Go.Proofs.YtdfmikamafbabaaDoor.Sha
open Go.RowKit

attribute [local go_sem] wi_xor wi_and wi_or wi_add wi_shr3 wi_shr10 wi_com

set_option maxHeartbeats 12800000 in
set_option maxRecDepth 1000000 in
theorem refsum_any (A : Option Addr) (n c : Nat) (b : List Int) (w : World) (h : Row .u8 w w.heap.size A n b) (hnil : A = none → c = 0) (hn : n ≤ 1099511627776) (hbyt : ∀ x ∈ b, 0 ≤ x ∧ x ≤ 255) :
    Calls Tryd.prog 27 #[.slice A n c] w fun e w' => ∃ v, e = .returned v ∧ w'.ownsRow w.heap.size 5 1 v 32 ((outs (blocks ks hs (pad b) ((pad b).length / 64)) 8).map (Value.int .u8)) ∧ Below w.heap.size w w' := by
  obtain ⟨i0, hi, hz0, hz1, hz2⟩ := parts_of info8
  obtain ⟨j0, ji, jz0, jz1, jz2⟩ := parts_of info32
  have H := Lib.hid h
  have HI := Lib.hid hnil
  have HY := Lib.hid hbyt
  clear h hnil hbyt
  go_enter Tryd.func27, Tryd.ntmps27
  go_wp2_with fail
  refine (constants_any w).mono ?_
  rintro e1 w1 ⟨v1, rfl, hown1, hb1⟩
  have HO1 := Lib.hid hown1
  have HB1 := Lib.hid hb1
  clear hown1 hb1
  go_wp2_with fail
  refine (begin_any w1).mono ?_
  rintro e2 w2 ⟨v2, rfl, hown2, hb2⟩
  have HO2 := Lib.hid hown2
  have HB2 := Lib.hid hb2
  clear hown2 hb2
  go_wp2_with fail
  refine (padded_any A n c b w2 (((H.out.below HB1.out).more HB1.out.size |>.below HB2.out).more HB2.out.size) HI.out hn).mono ?_
  rintro e3 w3 ⟨v3, rfl, hown3, hb3⟩
  have HO3 := Lib.hid hown3
  have HB3 := Lib.hid hb3
  clear hown3 hb3
  obtain ⟨A1, c1, rfl, -, -⟩ := own_slice HO1.out
  obtain ⟨A2, c2, rfl, -, hnil2⟩ := own_slice HO2.out
  obtain ⟨A3, c3, rfl, -, -⟩ := own_slice HO3.out
  have HK : Hid (WRow w3 w3.heap.size A1 64 ks) := (((Row.of_own HO1.out).below HB2.out).more HB2.out.size |>.below HB3.out).more HB3.out.size
  have HH : Hid (WRow w3 w3.heap.size A2 8 hs) := ((Row.of_own HO2.out).below HB3.out).more HB3.out.size
  have HA : Hid (Row .u8 w3 w3.heap.size A3 (pad b).length (pad b)) := Row.of_own HO3.out
  have HBW : Hid (Below w.heap.size w w3) := HB1.out.trans ((HB2.out.trans (HB3.out.mono HB2.out.size)).mono HB1.out.size)
  have HN2 := Lib.hid hnil2
  have hp64 := pad_64 b
  have hpl := pad_len b
  have hz := zeros_le b.length
  have hbl := H.out.len
  have HPB := Lib.hid (pad_byt HY.out)
  clear HO1 HO2 HO3 HB1 HB2 HB3 hnil2 H HI HY
  obtain ⟨p, hp⟩ : ∃ p, pad b = p := ⟨_, rfl⟩
  rw [hp] at HA hp64 hpl HPB ⊢
  have HPP := Lib.hid hp
  clear hp
  obtain ⟨P, hP⟩ : ∃ P, p.length = P := ⟨_, rfl⟩
  rw [hP] at HA hp64 hpl ⊢
  have hPb : P ≤ 1099511627900 := by omega
  obtain ⟨M, hM⟩ : ∃ M, P / 64 = M := ⟨_, rfl⟩
  have hPM : P = 64 * M := by omega
  obtain ⟨b3, o3, rfl, hb3, -⟩ := HA.out.cell_at (show 0 < P by omega)
  obtain ⟨b1, o1, rfl, hb1, -⟩ := Row.cell_at HK.out (show 0 < 64 by omega)
  have HMM := Lib.hid hM
  have HPM := Lib.hid hPM
  have HPL := Lib.hid hP
  clear hM hp64 hpl hz hbl hP hPM
  go_wp2_with fail
  go_loopw [4, 6] (fun vh i wr => ∃ (m : Nat) (Ah : Option Addr) (ch : Nat), m ≤ M ∧ i = .int .i64 (64 * (m : Int)) ∧ vh = .slice Ah 8 ch ∧ (Ah = none → ch = 0) ∧ Hid (WRow wr wr.heap.size Ah 8 (blocks ks hs p m)) ∧ Hid (Below w3.heap.size w3 wr)) (fun _ i _ => P - (intOf i).toNat)
  case atStart => exact ⟨0, A2, c2, Nat.zero_le _, rfl, rfl, HN2.out, HH, Below.refl _ _⟩
  case round =>
    obtain ⟨m, Ah, ch, hm, rfl, rfl, hnilh, HHR, HB⟩ := hrel
    by_cases hlt : m < M
    · have hcast : 64 * (m : Int) < (P : Int) := by have := HPM.out; omega
      have h64 : 64 * m + 64 ≤ P := by have := HPM.out; omega
      obtain ⟨B0, hB0⟩ : ∃ B0, wr.heap.size = B0 := ⟨_, rfl⟩
      have HX : Hid (Blk w3 B0 Ah (blocks ks hs p m) (.slice none 0 0) 0 (words p (64 * m) 0) wr) := ⟨World.ownsRow_nil _ _ _ _, by rw [← hB0]; exact HHR.out, HB.out, by omega, by rw [← hB0]; exact HB.out.size⟩
      clear HHR HB hB0
      go_wp2_with fail
      refine loop_words HA HPB h64 hPb HX ?_
      refine Lib.hid ?_
      intro x7 x8 x9 x10 x35 x36 x37 x38 x39 x40 x41 x42 x43 x44 x45 x46 x47 x48 x49 x50 x51 x52 x53 x54 x55 x56 x57 x58 x59 wq HW
      have HW0 : Hid ((words p (64 * m) 16).length = 16) := words_len _ _ _
      have HS : Hid (Blk w3 B0 Ah (blocks ks hs p m) x7 16 (sched (16 - 16) (words p (64 * m) 16)) wq) := HW
      clear HW HX
      go_wp2_with fail
      refine loop_sched HW0 HS ?_
      refine Lib.hid ?_
      clear HS
      intro x7 x11 x12 x13 x60 x61 x62 x63 x64 x65 x66 x67 x68 x69 x70 x71 x72 x73 x74 x75 x76 x77 x78 x79 x80 x81 x82 x83 x84 x85 x86 x87 x88 x89 x90 x91 x92 x93 x94 x95 x96 x97 x98 x99 x100 x101 x102 x103 x104 x105 x106 x107 x108 x109 x110 x111 x112 x113 x114 x115 x116 x117 x118 x119 x120 x121 wr HS
      have HNH := Lib.hid hnilh
      have HV0 : Hid (wr.ownsRow wr.heap.size 64 1 (.slice none 0 0) 0 (([] : List Int).map (Value.int .u32))) := World.ownsRow_nil _ _ _ _
      have hsz := HS.out.sz
      clear hnilh
      go_wp2_with (at_builtin; refine cat_own rfl (.tmp 122) (.tmp 123) 62 rfl wr.heap.size 64 j0 .u32 4 Tryd.underlying62 ji jz0 jz1 jz2 _ 0 [] rfl HV0.out B0 Ah 8 ch ((blocks ks hs p m).map wi) rfl HNH.out HS.out.row (by omega) (by omega) (Nat.le_refl _) ?_; intro v4 w4 hown4 hb4; have HOW4 := Lib.hid hown4; have HB4 := Lib.hid hb4; clear hown4 hb4)
      obtain ⟨A4, c4, rfl, -, -⟩ := own_slice HOW4.out
      obtain ⟨g4, rfl, -⟩ := own_at HOW4.out (by omega)
      have HS4 := Lib.hid (HS.out.below HB4.out)
      have HV4 : Hid (WRow w4 w4.heap.size (some ⟨g4, 0, none⟩) 8 (rounds ks (sched 48 (words p (64 * m) 16)) (blocks ks hs p m) 0)) := by
        have := Row.of_own HOW4.out
        exact this
      clear HOW4 HB4 HV0 HS hsz
      refine loop_rounds HK HV4 HS4 ?_
      refine Lib.hid ?_
      clear HV4 HS4
      rintro x14 x15 x16 x17 x18 x19 x20 x125 x126 x127 x128 x129 x130 x131 x132 x133 x134 x135 x136 x137 x138 x139 x140 x141 x142 x143 x144 x145 x146 x147 x148 x149 x150 x151 x152 x153 x154 x155 x156 x157 x158 x159 x160 x161 x162 x163 x164 x165 x166 x167 x168 x169 x170 x171 x172 x173 x174 x175 x176 x177 x178 x179 x180 x181 x182 x183 x184 x185 x186 x187 x188 x189 x190 x191 x192 x193 x194 x195 x196 x197 x198 x199 x200 x201 x202 x203 x204 x205 x206 x207 x208 x209 x210 x211 x212 x213 x214 x215 x216 x217 x218 x219 x220 x221 x222 x223 x224 x225 x226 x227 x228 x229 x230 x231 x232 x233 x234 x235 x236 x237 x238 x239 x240 x241 wr ⟨bv, ov, cv, rfl, HV, HS⟩
      obtain ⟨bh, oh, rfl, hbh, -⟩ := HS.out.row.at (show 0 < 8 by omega)
      obtain ⟨B1, hB1⟩ : ∃ B1, wr.heap.size = B1 := ⟨_, rfl⟩
      have HBL : Hid (blocks ks hs p (m + 1) = adds (blocks ks hs p m) (rounds ks (sched 48 (words p (64 * m) 16)) (blocks ks hs p m) 64) 8) := rfl
      have HA0 : Hid (Sm w3 B1 bh oh (blocks ks hs p m) bv ov (rounds ks (sched 48 (words p (64 * m) 16)) (blocks ks hs p m) 64) (.slice none 0 0) 0 wr) :=
        ⟨World.ownsRow_nil _ _ _ _, HS.out.row.more (by have := HS.out.sz; omega), by rw [← hB1]; exact HV.out, HS.out.bel, by omega, by have := HS.out.base; have := HS.out.sz; omega⟩
      generalize rounds ks (sched 48 (words p (64 * m) 16)) (blocks ks hs p m) 64 = R at HBL HA0
      clear HV HS hB1
      go_wp2_with fail
      refine loop_adds HA0 ?_
      refine Lib.hid ?_
      clear HA0
      intro x21 x22 x242 x243 x244 x245 x246 x247 x248 x249 x250 x251 x252 x253 x254 x255 x256 x257 wr HA1
      obtain ⟨A9, c9, rfl, -, hnil9⟩ := own_slice HA1.out.own
      have HR9 : Hid (WRow wr wr.heap.size A9 8 (blocks ks hs p (m + 1))) := by rw [HBL.out]; exact Row.of_own HA1.out.own
      have HN9 := Lib.hid hnil9
      have HB9 := Lib.hid HA1.out.bel
      clear HA1 hnil9
      go_wp2
      go_roundw
      case rel => first | exact ⟨m + 1, A9, c9, by omega, congrArg (Value.int .i64) (by omega), rfl, HN9.out, HR9, HB9⟩ | ((repeat apply Exists.intro); exact ⟨⟨m + 1, A9, c9, by omega, congrArg (Value.int .i64) (by omega), rfl, HN9.out, HR9, HB9⟩, rfl⟩)
      case measure => simp [intOf]; omega
    · have hmM : m = M := by omega
      have hcast : ¬ 64 * (m : Int) < (P : Int) := by have := HPM.out; omega
      obtain ⟨bh, oh, rfl, -, -⟩ := HHR.out.at (show 0 < 8 by omega)
      obtain ⟨B1, hB1⟩ : ∃ B1, wr.heap.size = B1 := ⟨_, rfl⟩
      have HO0 : Hid (Ou w3 B1 bh oh (blocks ks hs p m) (.slice none 0 0) 0 wr) := ⟨World.ownsRow_nil _ _ _ _, by rw [← hB1]; exact HHR.out, HB.out, by omega, by rw [← hB1]; exact HB.out.size⟩
      have HMP : Hid (m = P / 64) := by unfold Hid; rw [HMM.out]; exact hmM
      clear HHR HB hB1 hmM
      go_wp2_with fail
      go_loopw [23, 24] (fun v i wq => ∃ t : Nat, t ≤ 8 ∧ i = .int .i64 (t : Int) ∧ Hid (Ou w3 B1 bh oh (blocks ks hs p m) v t wq)) (fun _ i _ => 8 - (intOf i).toNat)
      case atStart => exact ⟨0, Nat.zero_le _, rfl, HO0⟩
      case round =>
        obtain ⟨t, ht, rfl, HO1⟩ := hrel
        by_cases ht8 : t < 8
        · obtain ⟨_, _, e1, hbh1, kh⟩ := HO1.out.rh.at ht8
          injection e1 with e1
          injection e1 with e1 e2
          subst e1 e2
          obtain ⟨a, ha⟩ : ∃ a, wat (blocks ks hs p m) t = a := ⟨_, rfl⟩
          rw [ha] at kh
          have hab := wi_bd a
          have HD1 := Lib.hid (HO1.out.drew (q := 1))
          have hsz : B1 ≤ wr.drew.heap.size := HD1.out.sz
          have hown : wr.drew.ownsRow B1 5 1 u23 (4 * t) ((outs (blocks ks hs p m) t).map (Value.int .u8)) := HD1.out.own
          have HOW := Lib.hid hown
          have KD : Hid (wr.drew.cell? ⟨bh, oh + t, none⟩ = some (.int .u32 (wi a))) := kh
          have KK : Hid (∀ w', Below B1 wr.drew w' → w'.cell? ⟨bh, oh + t, none⟩ = some (.int .u32 (wi a))) := fun w' hw => (hw.cell (p := ⟨bh, oh + t, none⟩) hbh1).trans kh
          have KA : Hid (∀ o, Below B1 wr.drew (wr.drew.alloc o)) := fun o => (Below.refl B1 wr.drew).alloc hsz o
          have HAA := Lib.hid ha
          clear hown hbh1 ha
          go_wp2_with fail
          go_region_held3 (fun wz => wz.cell? ⟨bh, oh + t, none⟩ = some (.int .u32 (wi a))) (first | exact m0 | exact KD.out | exact KK.out _ (KA.out _)) (first
            | (refine step_lit rfl (.tmp 263) (.tmp 290) 25 rfl B1 i0 1 Tryd.underlying25 hi hz0 hz1 hz2 _ (4 * t) (outs (blocks ks hs p m) t) rfl HOW.out 4 [_, _, _, _] rfl rfl rfl (by omega) (by omega) hsz ?_; intro v4 w4 hown4 hb4; have m0 := KK.out _ hb4; have HOW4 := Lib.hid hown4; have HB4 := Lib.hid hb4; clear hown4 hb4))
          rw [out4_eq, ← HAA.out] at HOW4
          have HO2 := Lib.hid (Ou.push HD1.out HOW4.out HB4.out)
          go_wp2
          go_roundw
          case rel => first | exact ⟨t + 1, by omega, by go_num, HO2⟩ | ((repeat apply Exists.intro); exact ⟨⟨t + 1, by omega, by go_num, HO2⟩, rfl⟩)
          case measure => simp [intOf]; omega
        · obtain rfl : t = 8 := by omega
          go_wp2
          go_ret
          refine ⟨u23, rfl, ?_, HBW.out.trans (HO1.out.bel.mono HBW.out.size)⟩
          rw [HPP.out, HPL.out, ← HMP.out]
          exact own_low HO1.out.own (Nat.le_trans HBW.out.size HO1.out.base)
end Go.Proofs.YtdfmikamafbabaaDoor.Sha

/- Layer 8 (hmac): the reference's Block, Tag and Derive, as contracts. -/
namespace Go.Proofs.YtdfmikamafbabaaDoor.Hmc
open Go.RowKit Sha

set_option maxHeartbeats 1600000 in
set_option maxRecDepth 100000 in
theorem refblock_any (A : Option Addr) (n c : Nat) (k : List Int) (m : Int) (w : World) (h : Row .u8 w w.heap.size A n k) (hnil : A = none → c = 0) (hn : n ≤ 1099511627776) (hk : ∀ x ∈ k, 0 ≤ x ∧ x ≤ 255) (hm : 0 ≤ m ∧ m ≤ 255) :
    Calls Tryd.prog 28 #[.slice A n c, .int .u8 m] w fun e w' => ∃ v, e = .returned v ∧ w'.ownsRow w.heap.size 5 1 v 64 ((blk k m).map (Value.int .u8)) ∧ Below w.heap.size w w' := by
  obtain ⟨i0, hi, hz0, hz1, hz2⟩ := parts_of info8
  have H := Lib.hid h
  have HK := Lib.hid hk
  have HM := Lib.hid hm
  have HN := Lib.hid hnil
  have hl := h.len
  have HL := Lib.hid hl
  clear h hk hm hnil hl
  -- the loop, over the key as it is used
  by_cases hb : 64 < n
  · go_enter Tryd.func28, Tryd.ntmps28
    go_wp2_with fail
    refine (refsum_any A n c k w H.out HN.out hn HK.out).mono ?_
    rintro e1 w1 ⟨v1, rfl, hown1, hb1⟩
    obtain ⟨A1, c1, rfl, -, -⟩ := own_slice hown1
    have hky : ky k = sum256 k := by unfold ky; rw [if_pos (by rw [HL.out]; exact hb)]
    have HR1 : Hid (Row .u8 w1 w1.heap.size A1 32 (ky k)) := by rw [hky]; exact Row.of_own hown1
    have HB1 := Lib.hid hb1
    clear hown1 hb1 hky hb
    obtain ⟨K, hK⟩ : ∃ K, ky k = K := ⟨_, rfl⟩
    have HKB : Hid (∀ x ∈ K, 0 ≤ x ∧ x ≤ 255) := by rw [← hK]; exact ky_byt HK.out
    have hKL : 32 ≤ 64 := by
      have h1 := HR1.out.len
      have h2 := ky_len k
      omega
    rw [hK] at HR1
    have HKE := Lib.hid hK
    clear hK
    have HO0 : Hid (w1.ownsRow w1.heap.size 5 1 (.slice none 0 0) 0 ((pre K m 0).map (Value.int .u8))) := World.ownsRow_nil _ _ _ _
    have HB0 : Hid (Below w1.heap.size w1 w1) := Below.refl _ _
    go_wp2_with fail
    go_loopw [5, 6] (fun v i wr => ∃ j : Nat, j ≤ 64 ∧ i = .int .i64 (j : Int) ∧ Hid (wr.ownsRow w1.heap.size 5 1 v j ((pre K m j).map (Value.int .u8))) ∧ Hid (Below w1.heap.size w1 wr)) (fun _ i _ => 64 - (intOf i).toNat)
    case atStart => exact ⟨0, Nat.zero_le _, rfl, HO0, HB0⟩
    case round =>
      obtain ⟨j, hj, rfl, HO, HB⟩ := hrel
      by_cases hlt : j < 64
      · have hx := getD_byt HKB.out j
        have hbx := xr_bits _ _ hx HM.out
        by_cases hjn : j < 32
        · obtain ⟨bb, oo, rfl, hbb, kc⟩ := (HR1.out.below HB.out).cell_at hjn
          have HP : Hid (pre K m (j + 1) = pre K m j ++ [xr (K.getD j 0) m]) := rfl
          generalize xr (K.getD j 0) m = y at hbx HP
          generalize K.getD j 0 = x at kc hbx hx
          clear hx
          go_wp2_with (at_builtin; refine push_own rfl (.tmp 20) (.tmp 27) 25 rfl w1.heap.size 5 i0 .u8 1 Tryd.underlying25 hi hz0 hz1 hz2 _ j (pre K m j) y rfl HO.out rfl (by omega) (by omega) HB.out.size ?_; intro v3 w3 hown3 hb3; have HO3 := Lib.hid hown3; have HB3 := Lib.hid (HB.out.trans hb3); clear hown3 hb3)
          go_roundw
          case rel => exact ⟨j + 1, by omega, by go_num, by rw [HP.out]; exact HO3, HB3⟩
          case measure => simp [intOf]; omega
        · have hz : K.getD j 0 = 0 := by
            have := HR1.out.len
            simp [List.getD, List.getElem?_eq_none (by omega : K.length ≤ j)]
          have HP : Hid (pre K m (j + 1) = pre K m j ++ [m]) := by
            show pre K m j ++ [xr (K.getD j 0) m] = _
            rw [hz, xr_zero HM.out.1]
          clear hbx hx hz
          go_wp2_with (at_builtin; refine push_own rfl (.tmp 29) (.tmp 31) 25 rfl w1.heap.size 5 i0 .u8 1 Tryd.underlying25 hi hz0 hz1 hz2 _ j (pre K m j) m rfl HO.out rfl (by omega) (by omega) HB.out.size ?_; intro v3 w3 hown3 hb3; have HO3 := Lib.hid hown3; have HB3 := Lib.hid (HB.out.trans hb3); clear hown3 hb3)
          go_roundw
          case rel => exact ⟨j + 1, by omega, by go_num, by rw [HP.out]; exact HO3, HB3⟩
          case measure => simp [intOf]; omega
      · obtain rfl : j = 64 := by omega
        go_wp2
        go_ret
        have e : blk k m = pre K m 64 := by unfold blk; rw [HKE.out]
        rw [e]
        exact ⟨_, rfl, own_low HO.out HB1.out.size, HB1.out.trans (HB.out.mono HB1.out.size)⟩
  · go_enter Tryd.func28, Tryd.ntmps28
    have hky : ky k = k := by unfold ky; rw [if_neg (by rw [HL.out]; exact hb)]
    have HR1 : Hid (Row .u8 w w.heap.size A n (ky k)) := by rw [hky]; exact H.out
    clear hky
    obtain ⟨K, hK⟩ : ∃ K, ky k = K := ⟨_, rfl⟩
    have HKB : Hid (∀ x ∈ K, 0 ≤ x ∧ x ≤ 255) := by rw [← hK]; exact ky_byt HK.out
    have hKL : n ≤ 64 := by
      have h1 := HR1.out.len
      have h2 := ky_len k
      omega
    rw [hK] at HR1
    have HKE := Lib.hid hK
    clear hK
    have HO0 : Hid (w.ownsRow w.heap.size 5 1 (.slice none 0 0) 0 ((pre K m 0).map (Value.int .u8))) := World.ownsRow_nil _ _ _ _
    have HB0 : Hid (Below w.heap.size w w) := Below.refl _ _
    go_wp2_with fail
    go_loopw [5, 6] (fun v i wr => ∃ j : Nat, j ≤ 64 ∧ i = .int .i64 (j : Int) ∧ Hid (wr.ownsRow w.heap.size 5 1 v j ((pre K m j).map (Value.int .u8))) ∧ Hid (Below w.heap.size w wr)) (fun _ i _ => 64 - (intOf i).toNat)
    case atStart => exact ⟨0, Nat.zero_le _, rfl, HO0, HB0⟩
    case round =>
      obtain ⟨j, hj, rfl, HO, HB⟩ := hrel
      by_cases hlt : j < 64
      · have hx := getD_byt HKB.out j
        have hbx := xr_bits _ _ hx HM.out
        by_cases hjn : j < n
        · obtain ⟨bb, oo, rfl, hbb, kc⟩ := (HR1.out.below HB.out).cell_at hjn
          have HP : Hid (pre K m (j + 1) = pre K m j ++ [xr (K.getD j 0) m]) := rfl
          generalize xr (K.getD j 0) m = y at hbx HP
          generalize K.getD j 0 = x at kc hbx hx
          clear hx
          go_wp2_with (at_builtin; refine push_own rfl (.tmp 20) (.tmp 27) 25 rfl w.heap.size 5 i0 .u8 1 Tryd.underlying25 hi hz0 hz1 hz2 _ j (pre K m j) y rfl HO.out rfl (by omega) (by omega) HB.out.size ?_; intro v3 w3 hown3 hb3; have HO3 := Lib.hid hown3; have HB3 := Lib.hid (HB.out.trans hb3); clear hown3 hb3)
          go_roundw
          case rel => exact ⟨j + 1, by omega, by go_num, by rw [HP.out]; exact HO3, HB3⟩
          case measure => simp [intOf]; omega
        · have hz : K.getD j 0 = 0 := by
            have := HR1.out.len
            simp [List.getD, List.getElem?_eq_none (by omega : K.length ≤ j)]
          have HP : Hid (pre K m (j + 1) = pre K m j ++ [m]) := by
            show pre K m j ++ [xr (K.getD j 0) m] = _
            rw [hz, xr_zero HM.out.1]
          clear hbx hx hz
          go_wp2_with (at_builtin; refine push_own rfl (.tmp 29) (.tmp 31) 25 rfl w.heap.size 5 i0 .u8 1 Tryd.underlying25 hi hz0 hz1 hz2 _ j (pre K m j) m rfl HO.out rfl (by omega) (by omega) HB.out.size ?_; intro v3 w3 hown3 hb3; have HO3 := Lib.hid hown3; have HB3 := Lib.hid (HB.out.trans hb3); clear hown3 hb3)
          go_roundw
          case rel => exact ⟨j + 1, by omega, by go_num, by rw [HP.out]; exact HO3, HB3⟩
          case measure => simp [intOf]; omega
      · obtain rfl : j = 64 := by omega
        go_wp2
        go_ret
        have e : blk k m = pre K m 64 := by unfold blk; rw [HKE.out]
        rw [e]
        exact ⟨_, rfl, HO.out, HB.out⟩

set_option maxHeartbeats 800000 in
set_option maxRecDepth 100000 in
theorem reftag_any (A A' : Option Addr) (n c n' c' : Nat) (k b : List Int) (w : World) (h : Row .u8 w w.heap.size A n k) (h' : Row .u8 w w.heap.size A' n' b) (hnil : A = none → c = 0) (hnil' : A' = none → c' = 0) (hn : n ≤ 1099511627776) (hn' : n' ≤ 549755813888) (hk : ∀ x ∈ k, 0 ≤ x ∧ x ≤ 255) (hb : ∀ x ∈ b, 0 ≤ x ∧ x ≤ 255) :
    Calls Tryd.prog 24 #[.slice A n c, .slice A' n' c'] w fun e w' => ∃ v, e = .returned v ∧ w'.ownsRow w.heap.size 5 1 v 32 ((mac k b).map (Value.int .u8)) ∧ Below w.heap.size w w' := by
  obtain ⟨i0, hi, hz0, hz1, hz2⟩ := parts_of info8
  have H := Lib.hid h
  have H' := Lib.hid h'
  have HK := Lib.hid hk
  have HB := Lib.hid hb
  have HN := Lib.hid hnil
  have HN' := Lib.hid hnil'
  clear h h' hk hb hnil hnil'
  go_enter Tryd.func24, Tryd.ntmps24
  go_wp2_with fail
  refine (refblock_any A n c k 54 w H.out HN.out hn HK.out (by omega)).mono ?_
  rintro e1 w1 ⟨v1, rfl, hown1, hb1⟩
  have HO1 := Lib.hid hown1
  have HB1 := Lib.hid hb1
  clear hown1 hb1
  go_wp2_with (at_builtin; refine cat_own rfl (.tmp 7) (.tmp 8) 25 rfl w.heap.size 5 i0 .u8 1 Tryd.underlying25 hi hz0 hz1 hz2 _ 64 (blk k 54) rfl HO1.out w.heap.size A' n' c' b rfl HN'.out (H'.out.below HB1.out) (by omega) (by omega) HB1.out.size ?_; intro v2 w2 hown2 hb2; have HO2 := Lib.hid hown2; have HB2 := Lib.hid (HB1.out.trans hb2); clear hown2 hb2)
  obtain ⟨A2, c2, rfl, -, hnil2⟩ := own_slice HO2.out
  have HN2 := Lib.hid hnil2
  have HIN : Hid (∀ x ∈ blk k 54 ++ b, 0 ≤ x ∧ x ≤ 255) := fun x hx => by
    rcases List.mem_append.1 hx with hx | hx
    · exact blk_byt HK.out (by omega) x hx
    · exact HB.out x hx
  clear hnil2
  refine (refsum_any A2 (64 + n') c2 (blk k 54 ++ b) _ (Row.of_own HO2.out) HN2.out (by omega) HIN.out).mono ?_
  rintro e3 w3 ⟨v3, rfl, hown3, hb3⟩
  obtain ⟨A3, c3, rfl, -, hnil3⟩ := own_slice hown3
  have HO3 := Lib.hid hown3
  have HN3 := Lib.hid hnil3
  have HB3 := Lib.hid (HB2.out.trans (hb3.mono HB2.out.size))
  clear hown3 hb3 hnil3 HO1 HO2
  go_wp2_with fail
  refine (refblock_any A n c k 92 w3 ((H.out.below HB3.out).more HB3.out.size) HN.out hn HK.out (by omega)).mono ?_
  rintro e4 w4 ⟨v4, rfl, hown4, hb4⟩
  have HO4 := Lib.hid hown4
  have HR3 := Lib.hid ((Row.of_own HO3.out).below hb4)
  have HB4 := Lib.hid (HB3.out.trans (hb4.mono HB3.out.size))
  have HS4 := Lib.hid hb4.size
  clear hown4 hb4
  go_wp2_with (at_builtin; refine cat_own rfl (.tmp 12) (.tmp 13) 25 rfl w3.heap.size 5 i0 .u8 1 Tryd.underlying25 hi hz0 hz1 hz2 _ 64 (blk k 92) rfl HO4.out w3.heap.size A3 32 c3 (sum256 (blk k 54 ++ b)) rfl HN3.out HR3.out (by omega) (by omega) HS4.out ?_; intro v5 w5 hown5 hb5; have HO5 := Lib.hid hown5; have HB5 := Lib.hid (HB4.out.trans (hb5.mono HB3.out.size)); clear hown5 hb5)
  obtain ⟨A5, c5, rfl, -, hnil5⟩ := own_slice HO5.out
  have HN5 := Lib.hid hnil5
  have HOUT : Hid (∀ x ∈ blk k 92 ++ sum256 (blk k 54 ++ b), 0 ≤ x ∧ x ≤ 255) := fun x hx => by
    rcases List.mem_append.1 hx with hx | hx
    · exact blk_byt HK.out (by omega) x hx
    · exact sum256_byt _ x hx
  clear hnil5
  refine (refsum_any A5 (64 + 32) c5 (blk k 92 ++ sum256 (blk k 54 ++ b)) _ (Row.of_own HO5.out) HN5.out (by omega) HOUT.out).mono ?_
  rintro e6 w6 ⟨v6, rfl, hown6, hb6⟩
  have HO6 := Lib.hid hown6
  have HB6 := Lib.hid (HB5.out.trans (hb6.mono HB5.out.size))
  clear hown6 hb6
  go_wp2
  go_ret
  exact ⟨_, rfl, own_low HO6.out HB5.out.size, HB6.out⟩
end Go.Proofs.YtdfmikamafbabaaDoor.Hmc

/- Words of our own on memory, over any program: a slice of the call's own whose block may be frozen beyond its capacity (what '[]byte(s)' makes), and appends onto it. -/
namespace Go.Proofs.YtdfmikamafbabaaDoor
open Go.RowKit

/-- v has n elements, the cells xs, in a block from base on; up to its capacity nothing of it is frozen. -/
def Mine (w : World) (base : Nat) (e : TypeId) (v : Value) (n : Nat) (xs : List Value) : Prop :=
  xs.length = n ∧ ∃ g cap cur fr, v = .slice (some ⟨g, 0, none⟩) n cap ∧ base ≤ g ∧ w.heap[g]? = some (.cells cur e fr) ∧ (∀ j, j < cap → ¬ (fr.1 ≤ j ∧ j < fr.2)) ∧ n ≤ cap ∧ cap ≤ maxLen ∧ cur.size = cap ∧ cur.toList.take n = xs

section
variable {w w' : World} {base n : Nat} {e : TypeId} {v : Value} {xs : List Value}
theorem Mine.of_own (h : w.ownsRow base e 1 v n xs) (hv : ∃ A c, v = .slice (some A) n c) : Mine w base e v n xs := by
  obtain ⟨A, c, rfl⟩ := hv
  rcases h.2 with ⟨h0, _⟩ | ⟨g, cap, cur, h1, h2, h3, h4, h5, h6, h7⟩
  · cases h0
  · refine ⟨by simpa using h.1, g, cap, cur, (0, 0), h1, h2, h3, fun j _ hh => by omega, h4, h5, by simpa using h6, by simpa using h7⟩
theorem Mine.slice (h : Mine w base e v n xs) : ∃ g c, v = .slice (some ⟨g, 0, none⟩) n c ∧ base ≤ g ∧ n ≤ c := by
  obtain ⟨_, g, cap, cur, fr, h1, h2, _, _, h5, _⟩ := h
  exact ⟨g, cap, h1, h2, h5⟩
theorem Mine.lt {g c : Nat} (h : Mine w base e (.slice (some ⟨g, 0, none⟩) n c) n xs) : g < w.heap.size := by
  obtain ⟨_, g', cap, cur, fr, h1, h2, h3, _⟩ := h
  injection h1 with h1
  injection h1 with h1
  injection h1 with h1
  subst h1
  exact (Array.getElem?_eq_some_iff.1 h3).1
theorem Mine.below (h : Mine w base e v n xs) (hb : Below w.heap.size w w') : Mine w' base e v n xs := by
  obtain ⟨h0, g, cap, cur, fr, h1, h2, h3, h4⟩ := h
  exact ⟨h0, g, cap, cur, fr, h1, h2, (hb.block g (Array.getElem?_eq_some_iff.1 h3).1).trans h3, h4⟩
theorem Mine.row {k : IntKind} {A : Option Addr} {c : Nat} {ys : List Int} (h : Mine w base e (.slice A n c) n (ys.map (Value.int k))) : Row k w w.heap.size A n ys := by
  obtain ⟨h0, g, cap, cur, fr, h1, h2, h3, h4, h5, h6, h7, h8⟩ := h
  injection h1 with h1
  subst h1
  have hl : ys.length = n := by simpa using h0
  refine ⟨hl, fun hn => ⟨g, 0, rfl, (Array.getElem?_eq_some_iff.1 h3).1, fun j hj => ?_⟩⟩
  rw [Nat.zero_add, cell_of_row w g j cur e fr h3]
  have h9 : (ys.map (Value.int k))[j]? = some (.int k (ys.getD j 0)) := by
    simp [List.getD, List.getElem?_eq_getElem (show j < ys.length by omega)]
  rw [← h8, List.getElem?_take_of_lt hj] at h9
  simpa using h9
end

theorem setCells_row {t : TypeId} {fr : Nat × Nat} (b : Nat) : ∀ (vs : List Value) (o : Nat) (cur : List Value) (w : World), w.heap[b]? = some (.cells cur.toArray t fr) → o + vs.length ≤ cur.length →
    (w.setCells b o vs).heap[b]? = some (.cells (cur.take o ++ (vs ++ cur.drop (o + vs.length))).toArray t fr)
  | [], o, cur, w, h, _ => by simpa [World.setCells] using h
  | v :: r, o, cur, w, h, hl => by
    rw [List.length_cons] at hl
    have h1 : (w.setCell ⟨b, o, none⟩ v).heap[b]? = some (.cells (cur.set o v).toArray t fr) := by
      rw [setCell_eq_setRow w b o cur.toArray t fr v h, setRow_heap w b _ _ t fr h, List.setIfInBounds_toArray]
    rw [World.setCells, setCells_row b r (o + 1) (cur.set o v) _ h1 (by rw [List.length_set]; omega)]
    congr 3
    rw [List.length_cons, List.take_succ_eq_append_getElem (by rw [List.length_set]; omega), List.take_set_of_le (Nat.le_refl _), List.drop_set_of_lt (by omega)]
    simp [show o + 1 + r.length = o + (r.length + 1) by omega]
theorem setCells_rest (b : Nat) : ∀ (vs : List Value) (o : Nat) (w : World), (w.setCells b o vs).os = w.os ∧ (w.setCells b o vs).tape = w.tape ∧ (w.setCells b o vs).output = w.output ∧ (w.setCells b o vs).heap.size = w.heap.size ∧ ∀ k, k ≠ b → (w.setCells b o vs).heap[k]? = w.heap[k]?
  | [], _, _ => ⟨rfl, rfl, rfl, rfl, fun _ _ => rfl⟩
  | v :: r, o, w => by
    obtain ⟨h1, h2, h3, h4, h5⟩ := setCells_rest b r (o + 1) (w.setCell ⟨b, o, none⟩ v)
    rw [World.setCells]
    exact ⟨h1, h2, h3, h4.trans (by simp [World.setCell]), fun k hk => (h5 k hk).trans (heap_setCell_other _ _ _ _ hk)⟩
theorem below_setCells {B b : Nat} (w : World) (o : Nat) (vs : List Value) (hb : B ≤ b) : Below B w (w.setCells b o vs) := by
  obtain ⟨h1, h2, h3, h4, h5⟩ := setCells_rest b vs o w
  exact ⟨h1, h2, h3, by omega, fun k hk => h5 k (by omega)⟩

theorem take_two {α : Type} (a b c : List α) (n m : Nat) (ha : a.length = n) (hb : b.length = m) : (a ++ (b ++ c)).take (n + m) = a ++ b := by
  rw [← List.append_assoc]
  exact List.take_left' (by simp; omega)
/-- 'append(out, ys...)' onto such a slice; ys reads as a row, nil let in. -/
theorem cat_min {P : Program} {ops : Array Oper} {rest : List Oper} {o : Oper} {a : Act} {Q : Exit → Act → World → Prop} {w : World} (hgd : o.guard = none) (s x : Operand) (t : TypeId)
    (ho : o.op = .call { callee := .builtin .append, args := #[s, x], argTypes := #[t, t] })
    (base : Nat) (e : TypeId) (i : TypeInfo) (k : IntKind) (bytes : Nat) (ht : P.underlying t = some (.slice e)) (hi : P.info? e = some i) (hz : i.zero = some (.int k 0)) (hsize : i.size = 1) (hby : i.bytes = bytes)
    (v : Value) (n : Nat) (xs : List Int) (hs : a.eval s = v) (hown : Mine w base e v n (xs.map (Value.int k))) (B : Nat) (A : Option Addr) (m c : Nat) (ys : List Int) (hx : a.eval x = .slice A m c) (hnil : A = none → c = 0) (hr : Row k w B A m ys)
    (hn : n + m ≤ 4398046511104) (hb8 : bytes ≤ 8) (hbase : base ≤ w.heap.size)
    (h : ∀ v' w', Mine w' base e v' (n + m) ((xs ++ ys).map (Value.int k)) → Below base w w' → wpList P ops Q rest (a.put o.dst v') w') :
    wpList P ops Q (o :: rest) a w := by
  subst hby
  have hmine := hown
  obtain ⟨h0, g, cap, cur, fr, rfl, h2, h3, h4, h5, h6, h7, h8⟩ := hown
  have hxl : xs.length = n := by simpa using h0
  rcases A with _ | ad
  · have hm : m = 0 := by
      rcases Nat.eq_zero_or_pos m with h0 | h0
      · exact h0
      · obtain ⟨_, _, h1, _⟩ := hr.2 h0
        cases h1
    subst hm
    have hy : ys = [] := List.eq_nil_of_length_eq_zero hr.1
    subst hy
    rw [hnil rfl] at hx
    have hrun : (Builtin.append_ #[t, t] o.type #[.slice (some ⟨g, 0, none⟩) n cap, .slice none 0 0]).run P w = .ok (.slice (some ⟨g, 0, none⟩) n cap) w := by
      have hst : (storeCells ((⟨g, 0, none⟩ : Addr).add (n * i.size)) ([] : List Value)).run P w = .ok () w := rfl
      simp [Builtin.append_, run_underlying ht, sizeOf, typeInfo, hi, Builtin.lenOf, Builtin.firstCells, h5, hst]
    refine wpList_plain hgd fun K hK => ?_
    unfold Oper.wp execOp
    simp only [ho, resolve, invoke, builtin, Sem.run_bind, Sem.run_pure, Result.andThen_ok, List.map_toArray, List.map_cons, List.map_nil, hs, hx, hrun]
    exact hK _ _ (h _ w (by simpa using hmine) (Below.refl _ _))
  · have hnews : ∀ j u, (ys.map (Value.int k))[j]? = some u → w.cell? (ad.add j) = some u := by
      intro j u hj
      have hjl : j < ys.length := by
        have := (List.getElem?_eq_some_iff.1 hj).1
        simpa using this
      have hl := hr.1
      obtain ⟨b, o, he, _, hc⟩ := hr.cell_at (show j < m by omega)
      injection he with he
      subst he
      have hadd : (⟨b, o, none⟩ : Addr).add j = ⟨b, o + j, none⟩ := by unfold Addr.add; split <;> simp_all
      rw [hadd, hc]
      simp only [List.getElem?_map, List.getElem?_eq_getElem hjl, Option.map_some, Option.some.injEq] at hj
      subst hj
      simp [List.getD, hjl]
    have h1 : ∀ u ∈ ys.map (Value.int k), u.oneCell' = true := by
      intro u hu
      obtain ⟨y, _, rfl⟩ := List.mem_map.1 hu
      rfl
    have hl : (ys.map (Value.int k)).length = m * i.size := by rw [hsize]; simp [hr.1]
    have hl1 : (ys.map (Value.int k)).length = m := by simp [hr.1]
    have h63 : n + m ≤ maxLen := by unfold maxLen; omega
    have hbb : (n + m) * i.bytes ≤ 140737488355328 := by have := Nat.mul_le_mul hn hb8; omega
    have hsmall : n + m ≤ 9223372036854775807 := by simp only [maxLen] at h63; omega
    have hcell : ∀ j, w.cell? ⟨g, j, none⟩ = cur[j]? := fun j => cell_of_row w g j cur e fr h3
    by_cases hroom : n + m ≤ cap
    · have hrun := run_append_room_cells (P := P) w t o.type e i ht hi g 0 n cap ad m c _ hl hnews h1 hroom
        (fun j hj => by rw [hsize, Nat.zero_add, Nat.mul_one, hcell, Array.getElem?_eq_getElem (by omega)]; rfl)
        (fun j hj => by
          rw [hsize, Nat.zero_add, Nat.mul_one]
          have := h4 (n + j) (by omega)
          simp only [World.frozen?, h3]
          simpa using this)
      rw [hsize, Nat.zero_add, Nat.mul_one] at hrun
      have hblk := setCells_row g (ys.map (Value.int k)) n cur.toList w (by simpa using h3) (by rw [hl1]; simp; omega)
      refine wpList_plain hgd fun K hK => ?_
      unfold Oper.wp execOp
      simp only [ho, resolve, invoke, builtin, Sem.run_bind, Sem.run_pure, Result.andThen_ok, List.map_toArray, List.map_cons, List.map_nil, hs, hx, hrun]
      refine hK _ _ (h _ _ ⟨by simp [hxl, hr.1], g, cap, _, fr, rfl, h2, hblk, h4, hroom, h6, ?_, ?_⟩ (below_setCells w n _ h2))
      · simp [hr.1, h7]; omega
      · rw [List.map_append, h8]
        exact take_two _ _ _ _ _ h0 hl1
    · have hrun := run_append_grow (P := P) w t o.type e i (.int k 0) ht hi hz ⟨g, 0, none⟩ n cap (xs.map (Value.int k)) (by rw [hsize]; simpa using h0)
        (fun j u hj => by
          have hadd : (⟨g, 0, none⟩ : Addr).add j = ⟨g, j, none⟩ := by unfold Addr.add; split <;> simp_all
          have hjn : j < n := by have := (List.getElem?_eq_some_iff.1 hj).1; omega
          rw [hadd, hcell]
          rw [← h8, List.getElem?_take_of_lt hjn] at hj
          simpa using hj) ad m c _ hl hnews (by omega) (by omega) (growslice_fits (by omega) hbb)
      refine wpList_plain hgd fun K hK => ?_
      unfold Oper.wp execOp
      simp only [ho, resolve, invoke, builtin, Sem.run_bind, Sem.run_pure, Result.andThen_ok, List.map_toArray, List.map_cons, List.map_nil, hs, hx, hrun]
      have hge := grownCap_ge w (n + m) cap e
      refine hK _ _ (h _ _ ⟨by simp [hxl, hr.1], w.heap.size, _, _, (0, 0), rfl, hbase, heap_alloc_new w.drew _, fun j _ hh => by omega, hge, grownCap_le_maxLen w (n + m) cap e h63, ?_, ?_⟩ ((Below.refl base w).drew.alloc hbase _))
      · have hzc : (Value.int k 0).cells.size = 1 := rfl
        simp only [Array.size_append, List.size_toArray, size_zeroCells, hzc, List.length_map, hxl, hr.1]
        omega
      · rw [List.map_append]
        simp only [Array.toList_append, List.append_assoc]
        exact take_two _ _ _ _ _ h0 hl1

/-- '[]byte(s)': what it makes. -/
theorem mine_bytes (w : World) (e : TypeId) (s : ByteArray) (hs : s.size ≤ 4398046511104) :
    Mine (w.drew.alloc (.cells (bytesRow s (grownCap w s.size 0 e)) e ((bytesRow s (grownCap w s.size 0 e)).size, (bytesRow s (grownCap w s.size 0 e)).size + 1))) w.heap.size e (.slice (some ⟨w.heap.size, 0, none⟩) s.size (grownCap w s.size 0 e)) s.size ((s.data.toList.map fun x => (x.toNat : Int)).map (Value.int .u8)) := by
  have hge := grownCap_ge w s.size 0 e
  have hsz : (bytesRow s (grownCap w s.size 0 e)).size = grownCap w s.size 0 e := by
    have : s.data.size = s.size := rfl
    unfold bytesRow
    simp only [Array.size_append, Array.size_map, Array.size_replicate, this]
    omega
  refine ⟨by simp, w.heap.size, _, _, _, rfl, Nat.le_refl _, heap_alloc_new w.drew _, fun j hj hh => ?_, hge, grownCap_le_maxLen w s.size 0 e (by unfold maxLen; omega), hsz, ?_⟩
  · rw [hsz] at hh
    simp at hh
    omega
  · unfold bytesRow
    have : s.data.toList.length = s.size := by simp
    simp [this]
end Go.Proofs.YtdfmikamafbabaaDoor

/- Layer 8 (hmac): the reference's Derive, as a contract. -/
namespace Go.Proofs.YtdfmikamafbabaaDoor.Hmc
open Go.RowKit Sha

set_option maxHeartbeats 800000 in
set_option maxRecDepth 100000 in
theorem refderive_any (A A' : Option Addr) (n c n' c' : Nat) (k b : List Int) (s : ByteArray) (w : World) (h : Row .u8 w w.heap.size A n k) (h' : Row .u8 w w.heap.size A' n' b) (hnil : A = none → c = 0) (hnil' : A' = none → c' = 0) (hn : n ≤ 1099511627776) (hn' : n' ≤ 137438953472) (hs : s.size ≤ 137438953472) (hk : ∀ x ∈ k, 0 ≤ x ∧ x ≤ 255) (hb : ∀ x ∈ b, 0 ≤ x ∧ x ≤ 255) :
    Calls Tryd.prog 19 #[.slice A n c, .string s, .slice A' n' c'] w fun e w' => ∃ v, e = .returned v ∧ w'.ownsRow w.heap.size 5 1 v 32 ((mac k (sby s ++ 0 :: b)).map (Value.int .u8)) ∧ Below w.heap.size w w' := by
  obtain ⟨i0, hi, hz0, hz1, hz2⟩ := parts_of info8
  have H := Lib.hid h
  have H' := Lib.hid h'
  have HK := Lib.hid hk
  have HB := Lib.hid hb
  have HN := Lib.hid hnil
  have HN' := Lib.hid hnil'
  clear h h' hk hb hnil hnil'
  have kc := fun (w : World) => run_bytes_of_string (P := Tryd.prog) w 9 25 5 s Tryd.underlying9 Tryd.underlying25 Tryd.underlying5
  have hm0 := mine_bytes w 5 s (by omega)
  have hb0 := (Below.refl w.heap.size w).drew.alloc (Nat.le_refl _) (.cells (bytesRow s (grownCap w s.size 0 5)) 5 ((bytesRow s (grownCap w s.size 0 5)).size, (bytesRow s (grownCap w s.size 0 5)).size + 1))
  obtain ⟨cap, hcap⟩ : ∃ cap, grownCap w s.size 0 5 = cap := ⟨_, rfl⟩
  have kc0 := kc w
  rw [hcap] at hm0 hb0 kc0
  obtain ⟨O, hO⟩ : ∃ O, Obj.cells (bytesRow s cap) 5 ((bytesRow s cap).size, (bytesRow s cap).size + 1) = O := ⟨_, rfl⟩
  rw [hO] at hm0 hb0 kc0
  have HM1 : Hid (Mine ((w.alloc O).alloc (.cells #[.int .u8 0] 5)).drew w.heap.size 5 (.slice (some ⟨w.heap.size, 0, none⟩) s.size cap) s.size ((sby s).map (Value.int .u8))) := hm0.below ((Below.refl _ _).alloc (Nat.le_refl _) _)
  have HB1 : Hid (Below w.heap.size w ((w.alloc O).alloc (.cells #[.int .u8 0] 5)).drew) := hb0.alloc (by simp) _
  have HR1 : Hid (Row .u8 ((w.alloc O).alloc (.cells #[.int .u8 0] 5)).drew (w.heap.size + 1 + 1) (some ⟨w.heap.size + 1, 0, none⟩) 1 [0]) := by
    refine ⟨rfl, fun _ => ⟨w.heap.size + 1, 0, rfl, by omega, fun j hj => ?_⟩⟩
    obtain rfl : j = 0 := by omega
    exact cell_of_blk (w := ((w.alloc O).alloc (.cells #[.int .u8 0] 5)).drew) (heap_alloc2_new w O _) rfl
  clear kc hm0 hb0 hcap hO
  go_enter Tryd.func19, Tryd.ntmps19
  go_wp2_with (at_builtin; first
    | (refine cat_min rfl (.tmp 10) (.tmp 11) 25 rfl w.heap.size 5 i0 .u8 1 Tryd.underlying25 hi hz0 hz1 hz2 _ s.size (sby s) rfl HM1.out (w.heap.size + 1 + 1) (some ⟨w.heap.size + 1, 0, none⟩) 1 1 [0] rfl (fun h => by cases h) HR1.out (by omega) (by omega) HB1.out.size ?_; intro v2 w2 hown2 hb2; have HM2 := Lib.hid hown2; have HB2 := Lib.hid (HB1.out.trans hb2); clear hown2 hb2)
    | (refine cat_min rfl (.tmp 14) (.tmp 15) 25 rfl w.heap.size 5 i0 .u8 1 Tryd.underlying25 hi hz0 hz1 hz2 _ (s.size + 1) (sby s ++ [0]) rfl HM2.out w.heap.size A' n' c' b rfl HN'.out (H'.out.below HB2.out) (by omega) (by omega) HB2.out.size ?_; intro v3 w3 hown3 hb3; have HM3 := Lib.hid hown3; have HB3 := Lib.hid (HB2.out.trans hb3); clear hown3 hb3))
  obtain ⟨g3, c3, rfl, -, -⟩ := HM3.out.slice
  have hcat : sby s ++ [0] ++ b = sby s ++ 0 :: b := by simp
  rw [hcat] at HM3
  have HBY : Hid (∀ x ∈ sby s ++ 0 :: b, 0 ≤ x ∧ x ≤ 255) := fun x hx => by
    rcases List.mem_append.1 hx with hx | hx
    · unfold sby at hx
      obtain ⟨y, _, rfl⟩ := List.mem_map.1 hx
      have := y.toNat_lt
      omega
    · rcases List.mem_cons.1 hx with rfl | hx
      · omega
      · exact HB.out x hx
  clear hcat HM2
  refine (reftag_any A (some ⟨g3, 0, none⟩) n c (s.size + 1 + n') c3 k (sby s ++ 0 :: b) _ ((H.out.below HB3.out).more HB3.out.size) HM3.out.row HN.out (fun h => by cases h) hn (by omega) HK.out HBY.out).mono ?_
  rintro e4 w4 ⟨v4, rfl, hown4, hb4⟩
  have HO4 := Lib.hid hown4
  have HB4 := Lib.hid (HB3.out.trans (hb4.mono HB3.out.size))
  clear hown4 hb4
  go_wp2
  go_ret
  exact ⟨_, rfl, own_low HO4.out HB3.out.size, HB4.out⟩
end Go.Proofs.YtdfmikamafbabaaDoor.Hmc

/- Layer 9 (ring): the reference's Key, as a contract. -/
namespace Go.Proofs.YtdfmikamafbabaaDoor.Rg
open Go.RowKit Sha Hmc

/-- The name of the keys. -/
def epoB : ByteArray := ⟨#[101, 112, 111, 99, 104]⟩
theorem epoB_sby : sby epoB = epo := by decide +kernel

set_option maxHeartbeats 800000 in
set_option maxRecDepth 100000 in
theorem refkey_any (A : Option Addr) (n c : Nat) (d : List Int) (e : Int) (w : World) (h : Row .u8 w w.heap.size A n d) (hnil : A = none → c = 0) (hn : n ≤ 1099511627776) (hd : ∀ x ∈ d, 0 ≤ x ∧ x ≤ 255) (he : 0 ≤ e ∧ e ≤ 16777216) :
    Calls Tryd.prog 11 #[.slice A n c, .int .i64 e] w fun x w' => ∃ v, x = .returned v ∧ w'.ownsRow w.heap.size 5 1 v 32 ((keyOf d e).map (Value.int .u8)) ∧ Below w.heap.size w w' := by
  have hb0 : Below w.heap.size w (w.alloc (.cells #[.int .u8 (e / 16777216), .int .u8 (e / 65536 % 256), .int .u8 (e / 256 % 256), .int .u8 (e % 256)] 5)) := (Below.refl _ _).alloc (Nat.le_refl _) _
  have HS : Hid ((w.alloc (.cells #[.int .u8 (e / 16777216), .int .u8 (e / 65536 % 256), .int .u8 (e / 256 % 256), .int .u8 (e % 256)] 5)).heap.size = w.heap.size + 1) := by unfold Hid; simp
  have HB0 := Lib.hid hb0
  have H := Lib.hid ((h.below hb0).more hb0.size)
  have HR : Hid (Row .u8 (w.alloc (.cells #[.int .u8 (e / 16777216), .int .u8 (e / 65536 % 256), .int .u8 (e / 256 % 256), .int .u8 (e % 256)] 5)) (w.alloc (.cells #[.int .u8 (e / 16777216), .int .u8 (e / 65536 % 256), .int .u8 (e / 256 % 256), .int .u8 (e % 256)] 5)).heap.size (some ⟨w.heap.size, 0, none⟩) 4 (be4 e)) := by
    refine ⟨rfl, fun _ => ⟨w.heap.size, 0, rfl, by rw [HS.out]; omega, fun j hj => ?_⟩⟩
    rw [Nat.zero_add]
    refine cell_of_blk (heap_alloc_new w _) ?_
    match j, hj with
    | 0, _ => rfl
    | 1, _ => rfl
    | 2, _ => rfl
    | 3, _ => rfl
  have HN := Lib.hid hnil
  have HD := Lib.hid hd
  have HE := Lib.hid (be4_byt he)
  clear h hnil hd hb0
  go_enter Tryd.func11, Tryd.ntmps11
  go_wp2_with fail
  refine (refderive_any A (some ⟨w.heap.size, 0, none⟩) n c 4 4 d (be4 e) epoB _ H.out HR.out HN.out (fun h => by cases h) hn (by omega) (by show 5 ≤ 137438953472; omega) HD.out HE.out).mono ?_
  rintro e2 w2 ⟨v2, rfl, hown2, hb2⟩
  rw [epoB_sby] at hown2
  have HO2 : Hid (w2.ownsRow w.heap.size 5 1 v2 32 ((keyOf d e).map (Value.int .u8))) := own_low hown2 HB0.out.size
  have HB2 := Lib.hid (HB0.out.trans (hb2.mono HB0.out.size))
  clear hown2 hb2
  go_wp2
  go_ret
  exact ⟨_, rfl, HO2.out, HB2.out⟩
end Go.Proofs.YtdfmikamafbabaaDoor.Rg

/- Layer 9 (ring): the reference's Rotate, as a contract. -/
namespace Go.Proofs.YtdfmikamafbabaaDoor.Rg
open Go.RowKit Slc

/-- A ring that was made: its value, its keys. -/
def RingIs (B : Nat) (w0 : World) (keep : Int) (E : List Kl) (v : Value) (w' : World) : Prop :=
  ∃ A n c K, v = .agg #[.int .i64 keep, .slice A n c] ∧ KRow w' w'.heap.size A n K ∧ ls K = E ∧ (A = none → c = 0) ∧ n ≤ c ∧ Below B w0 w'
theorem info_key : (Tryd.prog.info? 35).map (fun i => (i.zero, i.size, i.bytes)) = some (some (.agg #[.int .i64 0, .slice none 0 0]), 2, 32) := by kernel_rfl

/-- While the keys go over. -/
structure Ro (w0 : World) (B0 : Nat) (K : List Kp) (D t : Nat) (v : Value) (w' : World) : Prop where
  own : w'.ownsRow B0 35 2 v (t - D) (kflat ((K.take t).drop D))
  bel : Below B0 w0 w'

theorem own_addr {w : World} {base n c : Nat} {e : TypeId} {A : Option Addr} {xs : List Value} (h : w.ownsRow base e 1 (.slice A n c) n xs) : ∀ b o, A = some ⟨b, o, none⟩ → base ≤ b := by
  intro b o ha
  subst ha
  exact (h.lt b rfl).1
/-- A key that was made, laid as a slice of one key. -/
theorem laid_key {w1 w5 : World} {base m : Nat} {v : Value} {K0 : List Kp} {A5 : Option Addr} {c5 : Nat} {e : Int} {xs : List Int} {tk : TypeId} (hown : w1.ownsRow base 35 2 v m (kflat K0)) (hb : Below w1.heap.size w1 w5) (hk : w5.ownsRow w1.heap.size 5 1 (.slice A5 32 c5) 32 (xs.map (Value.int .u8))) (hc : 32 ≤ c5) (hn : A5 = none → c5 = 0) (hx : ∀ x ∈ xs, 0 ≤ x ∧ x ≤ 255) (he : 0 ≤ e ∧ e ≤ 16777216) :
    (w5.alloc (.cells #[.int .i64 e, .slice A5 32 c5] tk)).ownsRow base 35 2 v m (kflat K0) ∧ KRow (w5.alloc (.cells #[.int .i64 e, .slice A5 32 c5] tk)) (w5.heap.size + 1) (some ⟨w5.heap.size, 0, none⟩) 1 [⟨e, ⟨A5, 32, c5, xs⟩⟩] := by
  have hba : Below w5.heap.size w5 (w5.alloc (.cells #[.int .i64 e, .slice A5 32 c5] tk)) := (Below.refl _ _).alloc (Nat.le_refl _) _
  refine ⟨own_below_n (own_below_n hown hb) hba, KRow.of_blk (K := [⟨e, ⟨A5, 32, c5, xs⟩⟩]) (heap_alloc_new w5 _) (by omega) rfl (fun k hk' => ?_)⟩
  obtain rfl := List.mem_singleton.1 hk'
  exact ⟨⟨((Row.of_own hk).below hba).more (by omega), hn⟩, hc, hx, by simp only; omega, by simp only; omega⟩

set_option maxHeartbeats 1600000 in
set_option maxRecDepth 100000 in
theorem refrotate_any (keep : Int) (A A' : Option Addr) (n c n' c' : Nat) (K : List Kp) (d : List Int) (w : World) (h : KRow w w.heap.size A n K) (hr : RtP keep (ls K)) (h' : Row .u8 w w.heap.size A' n' d) (hnil' : A' = none → c' = 0) (hn' : n' ≤ 1099511627776) (hd : ∀ x ∈ d, 0 ≤ x ∧ x ≤ 255) :
    Calls Tryd.prog 17 #[.agg #[.int .i64 keep, .slice A n c], .slice A' n' c'] w fun x w' => ∃ v, x = .returned v ∧ RingIs w.heap.size w keep (rot keep (ls K) d) v w' := by
  obtain ⟨i0, hi, hz0, hz1, hz2⟩ := Sha.parts_of info_key
  have hlen := h.len
  have hk1 := hr.1
  have hk2 := hr.2.1
  have hk3 := hr.2.2.1
  have hk4 := hr.2.2.2.1
  rw [ls_len] at hk3 hk4
  obtain ⟨N, hN⟩ : ∃ N, now (ls K) = N := ⟨_, rfl⟩
  have hNb := now_le hr
  rw [hN] at hNb
  obtain ⟨w2, hw2⟩ : ∃ w2, (w.alloc (.cells #[.int .i64 keep, .slice A n c] 24)).alloc (.cells #[.int .i64 0, .slice none 0 0] 24) = w2 := ⟨_, rfl⟩
  have hb2 : Below w.heap.size w w2 := by rw [← hw2]; exact ((Below.refl _ _).alloc (Nat.le_refl _) _).alloc (by simp) _
  have hs2 : w2.heap.size = w.heap.size + 1 + 1 := by rw [← hw2]; simp
  have HB2 := Lib.hid hb2
  have HS2 := Lib.hid hs2
  have HK0 := Lib.hid h
  have HK := Lib.hid ((h.below hb2).more hb2.size)
  have HD := Lib.hid ((h'.below hb2).more hb2.size)
  have g0 : w2.cell? ⟨w.heap.size, 0, none⟩ = some (.int .i64 keep) := by rw [← hw2]; exact cell_of_blk (heap_alloc2_old w _ _) rfl
  have g1 : w2.cell? ⟨w.heap.size, 1, none⟩ = some (.slice A n c) := by rw [← hw2]; exact cell_of_blk (heap_alloc2_old w _ _) rfl
  have g2 : w2.heap[w.heap.size + 1]? = some (.cells #[.int .i64 0, .slice none 0 0] 24 (0, 0)) := by rw [← hw2]; exact heap_alloc2_new w _ _
  have HG := Lib.hid (And.intro g0 (And.intro g1 g2))
  have HR := Lib.hid hr
  have HNN := Lib.hid hN
  have HNIL := Lib.hid hnil'
  have HDB := Lib.hid hd
  have HW2 := Lib.hid hw2
  obtain ⟨b, o, k, rfl, hbb, hk, hok, k0, k1⟩ := HK.out.at (j := n - 1) (by omega)
  have hke : k.e = N := by rw [← hN, now_at (by rw [ls_len, hlen]; exact ls_at hk)]
  rw [hke] at k0
  have kw := k0
  rw [← hw2] at kw
  have m1 : IntKind.i64.wrap ((n : Int) - 1) = (n : Int) - 1 := IntWalk.i64_in _ ⟨by omega, by omega⟩
  have p1 : (0 : Int) ≤ (n : Int) - 1 := by omega
  have p2 : (n : Int) - 1 < (n : Int) := by omega
  have n1 : ((n : Int) - 1).toNat = n - 1 := by omega
  have m2 : IntKind.i64.wrap (N + 1) = N + 1 := IntWalk.i64_in _ ⟨by omega, by omega⟩
  have hb2' := hbb
  clear h hr h' hnil' hd hb2 hw2 g0 g1 g2 hN hk hok k1 hke
  go_enter Tryd.func17, Tryd.ntmps17
  go_wp2_with fail
  rw [HW2.out]
  clear kw m1 p1 p2 n1 m2 k0 hbb
  obtain ⟨D, hD⟩ : ∃ D, D = n + 1 - keep.toNat := ⟨_, rfl⟩
  have HR0 : Hid (Ro w2 w2.heap.size K D 0 (.slice none 0 0) w2) := ⟨by simpa [kflat] using World.ownsRow_nil w2 w2.heap.size 35 2, Below.refl _ _⟩
  have HDD := Lib.hid hD
  have HB := Lib.hid hb2'
  clear hD hb2'
  go_loopw [6, 7] (fun v i wr => ∃ t : Nat, t ≤ n ∧ i = .int .i64 (t : Int) ∧ Hid (Ro w2 w2.heap.size K D t v wr)) (fun _ i _ => n - (intOf i).toNat)
  case atStart => exact ⟨0, Nat.zero_le _, rfl, HR0⟩
  case round =>
    obtain ⟨t, ht, rfl, HO⟩ := hrel
    have f0 : wr.cell? ⟨w.heap.size, 0, none⟩ = some (.int .i64 keep) := (HO.out.bel.cell (p := ⟨w.heap.size, 0, none⟩) (by have := HS2.out; show w.heap.size < _; omega)).trans HG.out.1
    have f1 : wr.cell? ⟨w.heap.size, 1, none⟩ = some (.slice (some ⟨b, o, none⟩) n c) := (HO.out.bel.cell (p := ⟨w.heap.size, 1, none⟩) (by have := HS2.out; show w.heap.size < _; omega)).trans HG.out.2.1
    have HKR := Lib.hid (HK.out.below HO.out.bel)
    by_cases hlt : t < n
    · obtain ⟨b', o', k, e1, hbb', hk, hok, k0, k1⟩ := HKR.out.at hlt
      injection e1 with e1
      injection e1 with e1 e2
      subst e1 e2
      have hlt' : (t : Int) < (n : Int) := by omega
      have m1 : IntKind.i64.wrap ((n : Int) + 1) = (n : Int) + 1 := IntWalk.i64_in _ ⟨by omega, by omega⟩
      have m2 : IntKind.i64.wrap ((n : Int) + 1 - (t : Int)) = (n : Int) + 1 - (t : Int) := IntWalk.i64_in _ ⟨by omega, by omega⟩
      have HOK := Lib.hid hok
      have HKT := Lib.hid hk
      clear hk hok
      by_cases hDt : D ≤ t
      · have hd : decide ((n : Int) + 1 - (t : Int) ≤ keep) = true := by have := HDD.out; simp; omega
        obtain ⟨e, pA, pn, pc, xs⟩ := k
        simp only at k0 k1
        have hba : Below wr.heap.size wr (wr.alloc (.cells #[.int .i64 e, .slice pA pn pc] 35)) := (Below.refl _ _).alloc (Nat.le_refl _) _
        have HO1 := Lib.hid (own_below_n HO.out.own hba)
        have HX1 : Hid (KRow (wr.alloc (.cells #[.int .i64 e, .slice pA pn pc] 35)) (wr.heap.size + 1) (some ⟨wr.heap.size, 0, none⟩) 1 [⟨e, ⟨pA, pn, pc, xs⟩⟩]) := KRow.of_blk (K := [⟨e, ⟨pA, pn, pc, xs⟩⟩]) (heap_alloc_new wr _) (by omega) rfl (fun k hk => by
          obtain rfl := List.mem_singleton.1 hk
          exact (HOK.out.below (hba.mono HO.out.bel.size)).more (by have := HO.out.bel.size; omega))
        have hbs : w2.heap.size ≤ (wr.alloc (.cells #[.int .i64 e, .slice pA pn pc] 35)).heap.size := Nat.le_trans HO.out.bel.size hba.size
        have HBS := Lib.hid hbs
        have HBA := Lib.hid (HO.out.bel.alloc HO.out.bel.size (.cells #[.int .i64 e, .slice pA pn pc] 35))
        have HTK : Hid ((K.take t).drop D ++ [⟨e, ⟨pA, pn, pc, xs⟩⟩] = (K.take (t + 1)).drop D) := by
          unfold Hid
          obtain ⟨h1, h2⟩ := List.getElem?_eq_some_iff.1 HKT.out
          rw [List.take_succ_eq_append_getElem h1, List.drop_append_of_le_length (by simp; omega), h2]
        clear hba hbs
        go_wp2_with (at_builtin; refine cat_keys rfl (.tmp 34) (.tmp 40) 22 rfl w2.heap.size 35 i0 (.agg #[.int .i64 0, .slice none 0 0]) 32 Tryd.underlying22 hi hz0 rfl hz1 hz2 _ (t - D) _ rfl HO1.out _ _ 1 1 _ rfl HX1.out (by omega) (by omega) HBS.out ?_; intro v3 w3 hown3 _ hb3; have HO3 := Lib.hid hown3; have HB3 := Lib.hid (HBA.out.trans hb3); clear hown3 hb3)
        have HO2 : Hid (Ro w2 w2.heap.size K D (t + 1) v3 w3) := ⟨by
          have h1 := HO3.out
          rw [HTK.out] at h1
          rw [show t + 1 - D = t - D + 1 by omega]
          exact h1, HB3.out⟩
        go_roundw
        case rel => exact ⟨t + 1, by omega, by go_num, HO2⟩
        case measure => simp [intOf]; omega
      · have hd : decide ((n : Int) + 1 - (t : Int) ≤ keep) = false := by have := HDD.out; simp; omega
        have HO2 : Hid (Ro w2 w2.heap.size K D (t + 1) _ wr) := ⟨by
          have h1 := HO.out.own
          rw [show t - D = 0 by omega, List.drop_of_length_le (by simp; omega)] at h1
          rw [show t + 1 - D = 0 by omega, List.drop_of_length_le (by simp; omega)]
          exact h1, HO.out.bel⟩
        go_wp2
        go_roundw
        case rel => exact ⟨t + 1, by omega, by go_num, HO2⟩
        case measure => simp [intOf]; omega
    · obtain rfl : t = n := by omega
      have HKD : Hid (Row .u8 wr.drew w2.heap.size A' n' d) := HD.out.below HO.out.bel.drew
      have hko : w2.heap.size ≤ wr.heap.size := HO.out.bel.size
      have HOW := Lib.hid HO.out.own
      rw [List.take_of_length_le (by omega)] at HOW
      have q0 : wr.drew.cell? ⟨w.heap.size, 0, none⟩ = some (.int .i64 keep) := f0
      have HRB : Hid (wr.heap[w.heap.size + 1]? = some (.cells #[.int .i64 0, .slice none 0 0] 24 (0, 0))) := (HO.out.bel.block (w.heap.size + 1) (by have := HS2.out; omega)).trans HG.out.2.2
      have HKEY := Lib.hid (refkey_any A' n' c' d (N + 1) wr.drew (HKD.out.more hko) HNIL.out hn' HDB.out (by omega))
      have HOWD : Hid (wr.drew.ownsRow w2.heap.size 35 2 u6 (t - D) (kflat (K.drop D))) := HOW.out
      have HRBD : Hid (wr.drew.heap[w.heap.size + 1]? = some (.cells #[.int .i64 0, .slice none 0 0] 24 (0, 0))) := HRB.out
      have HBD : Hid (Below w2.heap.size w2 wr.drew) := HO.out.bel.drew
      have HLT : Hid (w.heap.size + 1 < w2.heap.size) := by have := HS2.out; unfold Hid; omega
      have HKO : Hid (w2.heap.size ≤ wr.drew.heap.size) := hko
      have HU6 : Hid (∀ j, u6.ownBlock = some j → j < wr.drew.heap.size) := fun j hj => (HOW.out.lt j hj).2
      go_wp2_with fail
      go_region_held3 (fun wx => wx.cell? ⟨w.heap.size, 0, none⟩ = some (.int .i64 keep)) (first | exact q0 | exact pc1 | exact pd1 | exact pa1 | (rw [World.cell?_setCell_other _ _ _ _ (by simp), World.cell?_setCell_other _ _ _ _ (by simp)]; exact pa1)) (first
        | (go_at_call 11; (refine HKEY.out.mono ?_); (rintro e5 w5 ⟨v5, rfl, hown5, hb5⟩); (obtain ⟨A5, c5, rfl, hc5, hnil5⟩ := own_slice hown5; have HL5 := Lib.hid (laid_key (tk := 35) (e := N + 1) HOWD.out hb5 hown5 hc5 hnil5 (keyOf_byt d (N + 1)) (by omega)); have HA5 : Hid (∀ b o, A5 = some ⟨b, o, none⟩ → wr.drew.heap.size ≤ b) := own_addr hown5; have HB5 := Lib.hid (HBD.out.trans (hb5.mono HKO.out)); have HB5a := Lib.hid (HB5.out.alloc HB5.out.size (.cells #[.int .i64 (N + 1), .slice A5 32 c5] 35)); have pc1 := (HB5.out.cell (p := ⟨w.heap.size, 0, none⟩) (by have := HLT.out; show w.heap.size < _; omega)).trans HG.out.1; have pd1 := (HB5a.out.cell (p := ⟨w.heap.size, 0, none⟩) (by have := HLT.out; show w.heap.size < _; omega)).trans HG.out.1; clear hown5 hb5 hc5 hnil5))
        | ((refine step_keys rfl (.tmp 44) (.tmp 50) 22 rfl w2.heap.size 35 i0 (.agg #[.int .i64 0, .slice none 0 0]) 32 Tryd.underlying22 hi hz0 rfl hz1 hz2 u6 (t - D) _ rfl HL5.out.1 _ _ 1 1 _ rfl HL5.out.2 (by omega) (by omega) HB5a.out.size ?_); (intro v6 w6 hown6 hg6 hb6; have HG6 := Lib.hid (Only.of_grown hg6); obtain ⟨A6, c6, rfl, hc6, hnil6⟩ := own_slice_n hown6; have HN6 := Lib.hid (And.intro hc6 hnil6); have HO6 := Lib.hid hown6; have HB6 := Lib.hid (HB5a.out.trans hb6); have pa1 := (HB6.out.cell (p := ⟨w.heap.size, 0, none⟩) (by have := HLT.out; show w.heap.size < _; omega)).trans HG.out.1; have r6 := (HB6.out.block (w.heap.size + 1) HLT.out).trans HG.out.2.2; have r60 : w6.cell? ⟨w.heap.size + 1, 0, none⟩ = some (.int .i64 0) := cell_of_blk r6 rfl; have r61 : w6.cell? ⟨w.heap.size + 1, 1, none⟩ = some (.slice none 0 0) := cell_of_blk r6 rfl; have r62 : w6.frozen? ⟨w.heap.size + 1, 0, none⟩ = false := free_of_blk r6; have r63 : w6.frozen? ⟨w.heap.size + 1, 1, none⟩ = false := free_of_blk r6; have HR6 := Lib.hid r6; clear hown6 hg6 hb6 r6 hc6 hnil6)))
      go_wp2_with fail
      have hsub : (((w6.setCell ⟨w.heap.size + 1, 0, none⟩ (.int .i64 keep)).setCell ⟨w.heap.size + 1, 1, none⟩ (.slice A6 (t - D + 1) c6))).heap[w.heap.size + 1]? = some (.cells #[.int .i64 keep, .slice A6 (t - D + 1) c6] 24 (0, 0)) := set_blk (set_blk HR6.out)
      have hO1 : Only (fun k => k = w.heap.size + 1) w6 ((w6.setCell ⟨w.heap.size + 1, 0, none⟩ (.int .i64 keep)).setCell ⟨w.heap.size + 1, 1, none⟩ (.slice A6 (t - D + 1) c6)) := (Only.setCell w6 ⟨w.heap.size + 1, 0, none⟩ _).trans (Only.setCell _ ⟨w.heap.size + 1, 1, none⟩ _) (fun i _ h => h)
      have hbf : Below w.heap.size w ((w6.setCell ⟨w.heap.size + 1, 0, none⟩ (.int .i64 keep)).setCell ⟨w.heap.size + 1, 1, none⟩ (.slice A6 (t - D + 1) c6)) := ((HB2.out.trans (HB6.out.mono HB2.out.size)).setCell (by simp) _).setCell (by simp) _
      generalize (w6.setCell ⟨w.heap.size + 1, 0, none⟩ (.int .i64 keep)).setCell ⟨w.heap.size + 1, 1, none⟩ (.slice A6 (t - D + 1) c6) = wf at *
      refine bodyPost_ret (results_cell_row (g := w.heap.size + 1) rfl _ _ _ _ _ _ rfl hsub Tryd.underlying24 rfl (by kernel_rfl)) rfl ⟨_, rfl, A6, t - D + 1, c6, K.drop D ++ [⟨N + 1, ⟨A5, 32, c5, keyOf d (N + 1)⟩⟩], rfl, ?_, ?_, HN6.out.2, HN6.out.1, hbf⟩
      · refine KRow.of_own (own_only_n hO1 HO6.out (fun k hk e => by have h1 := (HO6.out.lt k hk).1; have h2 := HLT.out; omega)) (fun k hk => ?_)
        rcases List.mem_append.1 hk with hk | hk
        · exact ((HK0.out.ok k (List.mem_of_mem_drop hk)).below hbf).more hbf.size
        · obtain rfl := List.mem_singleton.1 hk
          have h5 := HL5.out.2.ok _ (List.mem_singleton.2 rfl)
          have hS5 : (w5.alloc (.cells #[.int .i64 (N + 1), .slice A5 32 c5] 35)).heap.size = w5.heap.size + 1 := by simp
          have hOO : Only (fun k => u6.ownBlock = some k ∨ k = w.heap.size + 1) (w5.alloc (.cells #[.int .i64 (N + 1), .slice A5 32 c5] 35)) wf := (HG6.out.mono (fun i h => .inl h)).trans hO1 (fun i _ h => .inr h)
          have h6 := h5.only hOO (by omega) (fun b o hb _ hm => by
            have h1 := HA5.out b o hb
            rcases hm with hm | hm
            · have := HU6.out b hm
              omega
            · have h2 := HKO.out
              have h3 := HLT.out
              omega)
          exact h6.more (by have := hOO.size; omega)
      · unfold ls at *
        rw [List.map_append, List.map_drop]
        unfold rot
        rw [HNN.out, List.length_map, hlen, ← HDD.out]
        rfl
end Go.Proofs.YtdfmikamafbabaaDoor.Rg
