/- Lemmas that the proof stands on, in build order: ShaS4 ShaS5. -/
import Derived.Test.YtppbpmmfcoblmaaDoorJ100da1b1
/- Layer 7 (sha): the reference's Sum: its rounds. -/
namespace Go.Proofs.YtppbpmmfcoblmaaDoor.Sha
open Go.RowKit

attribute [local go_sem] wi_xor wi_and wi_or wi_add wi_shr3 wi_shr10 wi_com

set_option maxHeartbeats 6400000 in
set_option maxRecDepth 1000000 in
theorem loop_rounds {Q0 : Exit → Act → World → Prop} {s0 s1 s2 s4 s5 s6 s8 s9 s10 s11 s12 s13 s16 s17 s18 s19 s20 s21 s22 s23 s24 s25 s26 s27 s28 s29 s30 s31 s32 s33 s34 s35 s36 s37 s38 s39 s40 s41 s42 s43 s44 s45 s46 s47 s48 s49 s50 s51 s52 s53 s54 s55 s56 s57 s58 s59 s60 s61 s62 s63 s64 s65 s66 s67 s68 s69 s70 s71 s72 s73 s74 s75 s76 s77 s78 s79 s80 s81 s82 s83 s84 s85 s86 s87 s88 s89 s90 s91 s92 s93 s94 s95 s96 s97 s98 s99 s100 s101 s102 s103 s104 s105 s106 s107 s108 s109 s110 s111 s112 s113 s114 s115 s116 s117 s118 s119 s120 s121 s122 s123 s124 s125 s126 s127 s128 s129 s130 s131 s132 s133 s134 s135 s136 s137 s138 s139 s140 s141 s142 s143 s144 s145 s146 s147 s148 s149 s150 s151 s152 s153 s154 s155 s156 s157 s158 s159 s160 s161 s162 s163 s164 s165 s166 s167 s168 s169 s170 s171 s172 s173 s174 s175 s176 s177 s178 s179 s180 s181 s182 s183 s184 s185 s186 s187 s188 s189 s190 s191 s192 s193 s194 s195 s196 s197 s198 s199 s200 s201 s202 s203 s204 s205 s206 s207 s208 s209 s210 s211 s212 s213 s214 s215 s216 s217 s218 s219 s220 s221 s222 s223 s224 s225 s226 s227 s228 s229 s230 s231 s232 s233 s234 s235 s236 s237 s238 s239 s240 s241 s242 s243 s244 s245 s246 s247 s248 s249 s250 s251 s252 s253 s254 s255 s256 s257 s258 s259 s260 s261 s262 s263 s264 s265 s266 s267 s268 s269 s270 s271 s272 s273 s274 s275 s276 s277 s278 s279 s280 s281 s282 s283 s284 s285 s286 s287 s288 s289 s290 s291 s292 : Value} {v7 : Value} {w3 w : World} {h ws : List Wd} {Ah : Option Addr} {B0 b1 o1 c1 g4 c4 : Nat}
    (HK : Hid (WRow w3 w3.heap.size (some ⟨b1, o1, none⟩) 64 ks)) (HV4 : Hid (WRow w w.heap.size (some ⟨g4, 0, none⟩) 8 (rounds ks ws h 0))) (HS4 : Hid (Blk w3 B0 Ah h v7 64 ws w))
    (HEX : Hid (∀ (x14 x15 x16 x17 x18 x19 x20 x125 x126 x127 x128 x129 x130 x131 x132 x133 x134 x135 x136 x137 x138 x139 x140 x141 x142 x143 x144 x145 x146 x147 x148 x149 x150 x151 x152 x153 x154 x155 x156 x157 x158 x159 x160 x161 x162 x163 x164 x165 x166 x167 x168 x169 x170 x171 x172 x173 x174 x175 x176 x177 x178 x179 x180 x181 x182 x183 x184 x185 x186 x187 x188 x189 x190 x191 x192 x193 x194 x195 x196 x197 x198 x199 x200 x201 x202 x203 x204 x205 x206 x207 x208 x209 x210 x211 x212 x213 x214 x215 x216 x217 x218 x219 x220 x221 x222 x223 x224 x225 x226 x227 x228 x229 x230 x231 x232 x233 x234 x235 x236 x237 x238 x239 x240 x241 : Value) (wq : World), (∃ bv ov cv : Nat, x14 = .slice (some ⟨bv, ov, none⟩) 8 cv ∧ Hid (WRow wq wq.heap.size (some ⟨bv, ov, none⟩) 8 (rounds ks ws h 64)) ∧ Hid (Blk w3 B0 Ah h v7 64 ws wq)) → Q0 (.exit 8) ⟨List.toArray (s0 :: s1 :: s2 :: .slice (some ⟨b1, o1, none⟩) 64 c1 :: s4 :: s5 :: s6 :: v7 :: s8 :: s9 :: s10 :: s11 :: s12 :: s13 :: x14 :: x15 :: x16 :: x17 :: x18 :: x19 :: x20 :: s21 :: s22 :: s23 :: s24 :: s25 :: s26 :: s27 :: s28 :: s29 :: s30 :: s31 :: s32 :: s33 :: s34 :: s35 :: s36 :: s37 :: s38 :: s39 :: s40 :: s41 :: s42 :: s43 :: s44 :: s45 :: s46 :: s47 :: s48 :: s49 :: s50 :: s51 :: s52 :: s53 :: s54 :: s55 :: s56 :: s57 :: s58 :: s59 :: s60 :: s61 :: s62 :: s63 :: s64 :: s65 :: s66 :: s67 :: s68 :: s69 :: s70 :: s71 :: s72 :: s73 :: s74 :: s75 :: s76 :: s77 :: s78 :: s79 :: s80 :: s81 :: s82 :: s83 :: s84 :: s85 :: s86 :: s87 :: s88 :: s89 :: s90 :: s91 :: s92 :: s93 :: s94 :: s95 :: s96 :: s97 :: s98 :: s99 :: s100 :: s101 :: s102 :: s103 :: s104 :: s105 :: s106 :: s107 :: s108 :: s109 :: s110 :: s111 :: s112 :: s113 :: s114 :: s115 :: s116 :: s117 :: s118 :: s119 :: s120 :: s121 :: s122 :: s123 :: s124 :: x125 :: x126 :: x127 :: x128 :: x129 :: x130 :: x131 :: x132 :: x133 :: x134 :: x135 :: x136 :: x137 :: x138 :: x139 :: x140 :: x141 :: x142 :: x143 :: x144 :: x145 :: x146 :: x147 :: x148 :: x149 :: x150 :: x151 :: x152 :: x153 :: x154 :: x155 :: x156 :: x157 :: x158 :: x159 :: x160 :: x161 :: x162 :: x163 :: x164 :: x165 :: x166 :: x167 :: x168 :: x169 :: x170 :: x171 :: x172 :: x173 :: x174 :: x175 :: x176 :: x177 :: x178 :: x179 :: x180 :: x181 :: x182 :: x183 :: x184 :: x185 :: x186 :: x187 :: x188 :: x189 :: x190 :: x191 :: x192 :: x193 :: x194 :: x195 :: x196 :: x197 :: x198 :: x199 :: x200 :: x201 :: x202 :: x203 :: x204 :: x205 :: x206 :: x207 :: x208 :: x209 :: x210 :: x211 :: x212 :: x213 :: x214 :: x215 :: x216 :: x217 :: x218 :: x219 :: x220 :: x221 :: x222 :: x223 :: x224 :: x225 :: x226 :: x227 :: x228 :: x229 :: x230 :: x231 :: x232 :: x233 :: x234 :: x235 :: x236 :: x237 :: x238 :: x239 :: x240 :: x241 :: s242 :: s243 :: s244 :: s245 :: s246 :: s247 :: s248 :: s249 :: s250 :: s251 :: s252 :: s253 :: s254 :: s255 :: s256 :: s257 :: s258 :: s259 :: s260 :: s261 :: s262 :: s263 :: s264 :: s265 :: s266 :: s267 :: s268 :: s269 :: s270 :: s271 :: s272 :: s273 :: s274 :: s275 :: s276 :: s277 :: s278 :: s279 :: s280 :: s281 :: s282 :: s283 :: s284 :: s285 :: s286 :: s287 :: s288 :: s289 :: s290 :: s291 :: s292 :: []), []⟩ wq)) :
    Code.wp Tryd.prog (Code.loop ((Tryd.f77.body.bind (loopAt 26)).getD .skip)) Q0 ⟨List.toArray (s0 :: s1 :: s2 :: .slice (some ⟨b1, o1, none⟩) 64 c1 :: s4 :: s5 :: s6 :: v7 :: s8 :: s9 :: s10 :: s11 :: s12 :: s13 :: .slice (some ⟨g4, 0, none⟩) 8 c4 :: .int .i64 0 :: s16 :: s17 :: s18 :: s19 :: s20 :: s21 :: s22 :: s23 :: s24 :: s25 :: s26 :: s27 :: s28 :: s29 :: s30 :: s31 :: s32 :: s33 :: s34 :: s35 :: s36 :: s37 :: s38 :: s39 :: s40 :: s41 :: s42 :: s43 :: s44 :: s45 :: s46 :: s47 :: s48 :: s49 :: s50 :: s51 :: s52 :: s53 :: s54 :: s55 :: s56 :: s57 :: s58 :: s59 :: s60 :: s61 :: s62 :: s63 :: s64 :: s65 :: s66 :: s67 :: s68 :: s69 :: s70 :: s71 :: s72 :: s73 :: s74 :: s75 :: s76 :: s77 :: s78 :: s79 :: s80 :: s81 :: s82 :: s83 :: s84 :: s85 :: s86 :: s87 :: s88 :: s89 :: s90 :: s91 :: s92 :: s93 :: s94 :: s95 :: s96 :: s97 :: s98 :: s99 :: s100 :: s101 :: s102 :: s103 :: s104 :: s105 :: s106 :: s107 :: s108 :: s109 :: s110 :: s111 :: s112 :: s113 :: s114 :: s115 :: s116 :: s117 :: s118 :: s119 :: s120 :: s121 :: s122 :: s123 :: s124 :: s125 :: s126 :: s127 :: s128 :: s129 :: s130 :: s131 :: s132 :: s133 :: s134 :: s135 :: s136 :: s137 :: s138 :: s139 :: s140 :: s141 :: s142 :: s143 :: s144 :: s145 :: s146 :: s147 :: s148 :: s149 :: s150 :: s151 :: s152 :: s153 :: s154 :: s155 :: s156 :: s157 :: s158 :: s159 :: s160 :: s161 :: s162 :: s163 :: s164 :: s165 :: s166 :: s167 :: s168 :: s169 :: s170 :: s171 :: s172 :: s173 :: s174 :: s175 :: s176 :: s177 :: s178 :: s179 :: s180 :: s181 :: s182 :: s183 :: s184 :: s185 :: s186 :: s187 :: s188 :: s189 :: s190 :: s191 :: s192 :: s193 :: s194 :: s195 :: s196 :: s197 :: s198 :: s199 :: s200 :: s201 :: s202 :: s203 :: s204 :: s205 :: s206 :: s207 :: s208 :: s209 :: s210 :: s211 :: s212 :: s213 :: s214 :: s215 :: s216 :: s217 :: s218 :: s219 :: s220 :: s221 :: s222 :: s223 :: s224 :: s225 :: s226 :: s227 :: s228 :: s229 :: s230 :: s231 :: s232 :: s233 :: s234 :: s235 :: s236 :: s237 :: s238 :: s239 :: s240 :: s241 :: s242 :: s243 :: s244 :: s245 :: s246 :: s247 :: s248 :: s249 :: s250 :: s251 :: s252 :: s253 :: s254 :: s255 :: s256 :: s257 :: s258 :: s259 :: s260 :: s261 :: s262 :: s263 :: s264 :: s265 :: s266 :: s267 :: s268 :: s269 :: s270 :: s271 :: s272 :: s273 :: s274 :: s275 :: s276 :: s277 :: s278 :: s279 :: s280 :: s281 :: s282 :: s283 :: s284 :: s285 :: s286 :: s287 :: s288 :: s289 :: s290 :: s291 :: s292 :: []), []⟩ w := by
  conv => arg 2; arg 1; whnf
  go_loopw [14, 15] (fun v i wq => ∃ (t bv ov cv : Nat), t ≤ 64 ∧ i = .int .i64 (t : Int) ∧ v = .slice (some ⟨bv, ov, none⟩) 8 cv ∧ Hid (WRow wq wq.heap.size (some ⟨bv, ov, none⟩) 8 (rounds ks ws h t)) ∧ Hid (Blk w3 B0 Ah h v7 64 ws wq)) (fun _ i _ => 64 - (intOf i).toNat)
  case atStart => exact ⟨0, g4, 0, c4, Nat.zero_le _, rfl, rfl, HV4, HS4⟩
  case round =>
    obtain ⟨t, bv, ov, cv, ht, rfl, rfl, HV, HS⟩ := hrel
    by_cases ht64 : t < 64
    · have HRN : Hid (rounds ks ws h (t + 1) = round (rounds ks ws h t) (wat ks t) (wat ws t)) := rfl
      obtain ⟨g7, c7, rfl, hg7, hcw⟩ := HS.out.read (by omega)
      have kw := hcw t ht64
      obtain ⟨_, _, e1, -, kk⟩ := (HK.out.below HS.out.bel).at ht64
      injection e1 with e1
      injection e1 with e1 e2
      subst e1 e2
      have V0 := Lib.hid (V8.of HV.out)
      have hbv : bv < wr.heap.size := by obtain ⟨_, _, e, hb, _⟩ := HV.out.at (show 0 < 8 by omega); injection e with e; injection e with e; subst e; exact hb
      generalize rounds ks ws h t = V at HRN V0 HV
      obtain ⟨wd, hwd⟩ : ∃ a, wat ws t = a := ⟨_, rfl⟩
      obtain ⟨kd, hkd⟩ : ∃ a, wat ks t = a := ⟨_, rfl⟩
      rw [hwd] at kw HRN
      rw [hkd] at kk HRN
      have KW : Hid (∀ q, (wr.drewN q).cell? ⟨g7, t, none⟩ = some (.int .u32 (wi wd)) ∧ (wr.drewN q).cell? ⟨b1, o1 + t, none⟩ = some (.int .u32 (wi kd))) := fun q => ⟨kw, kk⟩
      have hbe : bg1 (wat V 4) = rot (wat V 4) 6 ^^^ rot (wat V 4) 11 ^^^ rot (wat V 4) 25 := rfl
      have hba : bg0 (wat V 0) = rot (wat V 0) 2 ^^^ rot (wat V 0) 13 ^^^ rot (wat V 0) 22 := rfl
      have HBE := Lib.hid hbe
      have HBA := Lib.hid hba
      have k4 := V0.out.c4
      clear hwd hkd hcw kw kk hbe hba
      go_wp2_with fail
      go_quiet ((go_at_call 96; exact Calls.quiet_of (turned_z _ _ (by decide) (by decide) _)))
      rw [← HBE.out]
      have V1 : Hid (V8 (wr.drewN nq) bv ov V) := V0.out.drew
      have HS1 := Lib.hid (HS.out.drew (q := nq))
      have KW1 : Hid (∀ q, ((wr.drewN nq).drewN q).cell? ⟨g7, t, none⟩ = some (.int .u32 (wi wd)) ∧ ((wr.drewN nq).drewN q).cell? ⟨b1, o1 + t, none⟩ = some (.int .u32 (wi kd))) := fun q => KW.out 0
      clear k4 KW V0 HS HV hg7
      have hbv1 : bv < (wr.drewN nq).heap.size := hbv
      clear hbv
      generalize wr.drewN nq = wx at V1 HS1 KW1 hbv1 ⊢
      have k4 := V1.out.c4
      have k5 := V1.out.c5
      have k6 := V1.out.c6
      go_wp2_with fail
      go_quiet (fail)
      have hch : Hid (wat V 4 &&& wat V 5 ^^^ ~~~wat V 4 &&& wat V 6 = cho (wat V 4) (wat V 5) (wat V 6)) := rfl
      rw [hch.out]
      have V2 : Hid (V8 (wx.drewN nq) bv ov V) := V1.out.drew
      have HS2 := Lib.hid (HS1.out.drew (q := nq))
      have KW2 : Hid (∀ q, ((wx.drewN nq).drewN q).cell? ⟨g7, t, none⟩ = some (.int .u32 (wi wd)) ∧ ((wx.drewN nq).drewN q).cell? ⟨b1, o1 + t, none⟩ = some (.int .u32 (wi kd))) := fun q => KW1.out 0
      clear k4 k5 k6 KW1 V1 HS1
      have hbv : bv < (wx.drewN nq).heap.size := hbv1
      clear hbv1
      generalize wx.drewN nq = wy at V2 HS2 KW2 hbv ⊢
      have k7 := V2.out.c7
      have kw : wy.cell? ⟨g7, t, none⟩ = some (.int .u32 (wi wd)) := (KW2.out 0).1
      have kk : wy.cell? ⟨b1, o1 + t, none⟩ = some (.int .u32 (wi kd)) := (KW2.out 0).2
      go_wp2_with fail
      go_quiet (fail)
      have hone : Hid (wat V 7 + bg1 (wat V 4) + cho (wat V 4) (wat V 5) (wat V 6) + kd + wd = one V kd wd) := rfl
      rw [hone.out]
      have V3 : Hid (V8 (wy.drewN nq) bv ov V) := V2.out.drew
      have HS3 := Lib.hid (HS2.out.drew (q := nq))
      have hbv1 : bv < (wy.drewN nq).heap.size := hbv
      clear k7 kw kk KW2 V2 HS2 hbv
      generalize wy.drewN nq = wx at V3 HS3 hbv1 ⊢
      have k0 := V3.out.c0
      go_wp2_with fail
      go_quiet ((go_at_call 96; exact Calls.quiet_of (turned_z _ _ (by decide) (by decide) _)))
      rw [← HBA.out]
      have V4 : Hid (V8 (wx.drewN nq) bv ov V) := V3.out.drew
      have HS4 := Lib.hid (HS3.out.drew (q := nq))
      have hbv : bv < (wx.drewN nq).heap.size := hbv1
      clear k0 V3 HS3 hbv1
      generalize wx.drewN nq = wy at V4 HS4 hbv ⊢
      have k0 := V4.out.c0
      have k1 := V4.out.c1
      have k2 := V4.out.c2
      go_wp2_with fail
      go_quiet (fail)
      have hmj : Hid (wat V 0 &&& wat V 1 ^^^ wat V 0 &&& wat V 2 ^^^ wat V 1 &&& wat V 2 = maj (wat V 0) (wat V 1) (wat V 2)) := rfl
      rw [hmj.out]
      have V5 : Hid (V8 (wy.drewN nq) bv ov V) := V4.out.drew
      have HS5 := Lib.hid (HS4.out.drew (q := nq))
      have hbv1 : bv < (wy.drewN nq).heap.size := hbv
      clear k0 k1 k2 V4 HS4 hbv
      generalize wy.drewN nq = wx at V5 HS5 hbv1 ⊢
      have k0 := V5.out.c0
      have k1 := V5.out.c1
      have k2 := V5.out.c2
      have k3 := V5.out.c3
      have k4 := V5.out.c4
      have k5 := V5.out.c5
      have k6 := V5.out.c6
      have KD : Hid (wx.drew.cell? ⟨bv, ov, none⟩ = some (.int .u32 (wi (wat V 0))) ∧ wx.drew.cell? ⟨bv, ov + 1, none⟩ = some (.int .u32 (wi (wat V 1))) ∧ wx.drew.cell? ⟨bv, ov + 2, none⟩ = some (.int .u32 (wi (wat V 2))) ∧ wx.drew.cell? ⟨bv, ov + 3, none⟩ = some (.int .u32 (wi (wat V 3))) ∧ wx.drew.cell? ⟨bv, ov + 4, none⟩ = some (.int .u32 (wi (wat V 4))) ∧ wx.drew.cell? ⟨bv, ov + 5, none⟩ = some (.int .u32 (wi (wat V 5))) ∧ wx.drew.cell? ⟨bv, ov + 6, none⟩ = some (.int .u32 (wi (wat V 6)))) := ⟨k0, k1, k2, k3, k4, k5, k6⟩
      have KA : Hid (∀ o, (wx.drew.alloc o).cell? ⟨bv, ov, none⟩ = some (.int .u32 (wi (wat V 0))) ∧ (wx.drew.alloc o).cell? ⟨bv, ov + 1, none⟩ = some (.int .u32 (wi (wat V 1))) ∧ (wx.drew.alloc o).cell? ⟨bv, ov + 2, none⟩ = some (.int .u32 (wi (wat V 2))) ∧ (wx.drew.alloc o).cell? ⟨bv, ov + 3, none⟩ = some (.int .u32 (wi (wat V 3))) ∧ (wx.drew.alloc o).cell? ⟨bv, ov + 4, none⟩ = some (.int .u32 (wi (wat V 4))) ∧ (wx.drew.alloc o).cell? ⟨bv, ov + 5, none⟩ = some (.int .u32 (wi (wat V 5))) ∧ (wx.drew.alloc o).cell? ⟨bv, ov + 6, none⟩ = some (.int .u32 (wi (wat V 6)))) := fun o => ⟨(((Below.refl _ wx).drew.alloc (Nat.le_refl _) o).cell (p := ⟨bv, ov, none⟩) hbv1).trans k0, (((Below.refl _ wx).drew.alloc (Nat.le_refl _) o).cell (p := ⟨bv, ov + 1, none⟩) hbv1).trans k1, (((Below.refl _ wx).drew.alloc (Nat.le_refl _) o).cell (p := ⟨bv, ov + 2, none⟩) hbv1).trans k2, (((Below.refl _ wx).drew.alloc (Nat.le_refl _) o).cell (p := ⟨bv, ov + 3, none⟩) hbv1).trans k3, (((Below.refl _ wx).drew.alloc (Nat.le_refl _) o).cell (p := ⟨bv, ov + 4, none⟩) hbv1).trans k4, (((Below.refl _ wx).drew.alloc (Nat.le_refl _) o).cell (p := ⟨bv, ov + 5, none⟩) hbv1).trans k5, (((Below.refl _ wx).drew.alloc (Nat.le_refl _) o).cell (p := ⟨bv, ov + 6, none⟩) hbv1).trans k6⟩
      have HS6 := Lib.hid (HS5.out.drew (q := 1))
      clear V5 HS5 hbv1
      go_wp2_with fail
      go_region_held3 (fun wz => wz.cell? ⟨bv, ov, none⟩ = some (.int .u32 (wi (wat V 0))) ∧ wz.cell? ⟨bv, ov + 1, none⟩ = some (.int .u32 (wi (wat V 1))) ∧ wz.cell? ⟨bv, ov + 2, none⟩ = some (.int .u32 (wi (wat V 2))) ∧ wz.cell? ⟨bv, ov + 3, none⟩ = some (.int .u32 (wi (wat V 3))) ∧ wz.cell? ⟨bv, ov + 4, none⟩ = some (.int .u32 (wi (wat V 4))) ∧ wz.cell? ⟨bv, ov + 5, none⟩ = some (.int .u32 (wi (wat V 5))) ∧ wz.cell? ⟨bv, ov + 6, none⟩ = some (.int .u32 (wi (wat V 6)))) (first | exact KD.out | exact KA.out _) (fail)
      have HNV : Hid (WRow (wx.drew.alloc (.cells #[.int .u32 (wi (one V kd wd + bg0 (wat V 0) + maj (wat V 0) (wat V 1) (wat V 2))), .int .u32 (wi (wat V 0)), .int .u32 (wi (wat V 1)), .int .u32 (wi (wat V 2)), .int .u32 (wi (wat V 3 + one V kd wd)), .int .u32 (wi (wat V 4)), .int .u32 (wi (wat V 5)), .int .u32 (wi (wat V 6))] 101)) (wx.heap.size + 1) (some ⟨wx.heap.size, 0, none⟩) 8 (round V kd wd)) := by
        have := lit8 wx.drew 101 (one V kd wd + bg0 (wat V 0) + maj (wat V 0) (wat V 1) (wat V 2)) (wat V 0) (wat V 1) (wat V 2) (wat V 3 + one V kd wd) (wat V 4) (wat V 5) (wat V 6)
        rw [World.size_alloc] at this
        exact this
      have HNS := Lib.hid (HS6.out.below ((Below.refl _ _).alloc (Nat.le_refl _) (.cells #[.int .u32 (wi (one V kd wd + bg0 (wat V 0) + maj (wat V 0) (wat V 1) (wat V 2))), .int .u32 (wi (wat V 0)), .int .u32 (wi (wat V 1)), .int .u32 (wi (wat V 2)), .int .u32 (wi (wat V 3 + one V kd wd)), .int .u32 (wi (wat V 4)), .int .u32 (wi (wat V 5)), .int .u32 (wi (wat V 6))] 101)))
      go_wp2
      go_roundw
      case rel => exact ⟨t + 1, wx.heap.size, 0, 8, by omega, by go_num, rfl, by rw [HRN.out]; exact Row.drew (lit8 wx _ _ _ _ _ _ _ _ _), HNS⟩
      case measure => simp [intOf]; omega
    · obtain rfl : t = 64 := by omega
      go_wp2_with fail
      exact HEX.out _ _ _ _ _ _ _ _ _ _ _ _ _ _ _ _ _ _ _ _ _ _ _ _ _ _ _ _ _ _ _ _ _ _ _ _ _ _ _ _ _ _ _ _ _ _ _ _ _ _ _ _ _ _ _ _ _ _ _ _ _ _ _ _ _ _ _ _ _ _ _ _ _ _ _ _ _ _ _ _ _ _ _ _ _ _ _ _ _ _ _ _ _ _ _ _ _ _ _ _ _ _ _ _ _ _ _ _ _ _ _ _ _ _ _ _ _ _ _ _ _ _ _ _ _ ⟨bv, ov, cv, rfl, HV, HS⟩
end Go.Proofs.YtppbpmmfcoblmaaDoor.Sha

/- Layer 7 (sha): the reference's Sum: its sums. -/
namespace Go.Proofs.YtppbpmmfcoblmaaDoor.Sha
open Go.RowKit

attribute [local go_sem] wi_xor wi_and wi_or wi_add wi_shr3 wi_shr10 wi_com

set_option maxHeartbeats 6400000 in
set_option maxRecDepth 1000000 in
theorem loop_adds {Q0 : Exit → Act → World → Prop} {s0 s1 s2 s3 s5 s6 s7 s8 s9 s10 s11 s12 s13 s15 s16 s17 s18 s19 s20 s23 s24 s25 s26 s27 s28 s29 s30 s31 s32 s33 s34 s35 s36 s37 s38 s39 s40 s41 s42 s43 s44 s45 s46 s47 s48 s49 s50 s51 s52 s53 s54 s55 s56 s57 s58 s59 s60 s61 s62 s63 s64 s65 s66 s67 s68 s69 s70 s71 s72 s73 s74 s75 s76 s77 s78 s79 s80 s81 s82 s83 s84 s85 s86 s87 s88 s89 s90 s91 s92 s93 s94 s95 s96 s97 s98 s99 s100 s101 s102 s103 s104 s105 s106 s107 s108 s109 s110 s111 s112 s113 s114 s115 s116 s117 s118 s119 s120 s121 s122 s123 s124 s125 s126 s127 s128 s129 s130 s131 s132 s133 s134 s135 s136 s137 s138 s139 s140 s141 s142 s143 s144 s145 s146 s147 s148 s149 s150 s151 s152 s153 s154 s155 s156 s157 s158 s159 s160 s161 s162 s163 s164 s165 s166 s167 s168 s169 s170 s171 s172 s173 s174 s175 s176 s177 s178 s179 s180 s181 s182 s183 s184 s185 s186 s187 s188 s189 s190 s191 s192 s193 s194 s195 s196 s197 s198 s199 s200 s201 s202 s203 s204 s205 s206 s207 s208 s209 s210 s211 s212 s213 s214 s215 s216 s217 s218 s219 s220 s221 s222 s223 s224 s225 s226 s227 s228 s229 s230 s231 s232 s233 s234 s235 s236 s237 s238 s239 s240 s241 s242 s243 s244 s245 s246 s247 s248 s249 s250 s251 s252 s253 s254 s255 s256 s257 s258 s259 s260 s261 s262 s263 s264 s265 s266 s267 s268 s269 s270 s271 s272 s273 s274 s275 s276 s277 s278 s279 s280 s281 s282 s283 s284 s285 s286 s287 s288 s289 s290 s291 s292 : Value} {w3 w : World} {h R : List Wd} {B1 bh oh ch bv ov cv : Nat}
    (HA0 : Hid (Sm w3 B1 bh oh h bv ov R (.slice none 0 0) 0 w))
    (HEX : Hid (∀ (x21 x22 x242 x243 x244 x245 x246 x247 x248 x249 x250 x251 x252 x253 x254 x255 x256 x257 : Value) (wq : World), Hid (Sm w3 B1 bh oh h bv ov R x21 8 wq) → Q0 (.exit 10) ⟨List.toArray (s0 :: s1 :: s2 :: s3 :: .slice (some ⟨bh, oh, none⟩) 8 ch :: s5 :: s6 :: s7 :: s8 :: s9 :: s10 :: s11 :: s12 :: s13 :: .slice (some ⟨bv, ov, none⟩) 8 cv :: s15 :: s16 :: s17 :: s18 :: s19 :: s20 :: x21 :: x22 :: s23 :: s24 :: s25 :: s26 :: s27 :: s28 :: s29 :: s30 :: s31 :: s32 :: s33 :: s34 :: s35 :: s36 :: s37 :: s38 :: s39 :: s40 :: s41 :: s42 :: s43 :: s44 :: s45 :: s46 :: s47 :: s48 :: s49 :: s50 :: s51 :: s52 :: s53 :: s54 :: s55 :: s56 :: s57 :: s58 :: s59 :: s60 :: s61 :: s62 :: s63 :: s64 :: s65 :: s66 :: s67 :: s68 :: s69 :: s70 :: s71 :: s72 :: s73 :: s74 :: s75 :: s76 :: s77 :: s78 :: s79 :: s80 :: s81 :: s82 :: s83 :: s84 :: s85 :: s86 :: s87 :: s88 :: s89 :: s90 :: s91 :: s92 :: s93 :: s94 :: s95 :: s96 :: s97 :: s98 :: s99 :: s100 :: s101 :: s102 :: s103 :: s104 :: s105 :: s106 :: s107 :: s108 :: s109 :: s110 :: s111 :: s112 :: s113 :: s114 :: s115 :: s116 :: s117 :: s118 :: s119 :: s120 :: s121 :: s122 :: s123 :: s124 :: s125 :: s126 :: s127 :: s128 :: s129 :: s130 :: s131 :: s132 :: s133 :: s134 :: s135 :: s136 :: s137 :: s138 :: s139 :: s140 :: s141 :: s142 :: s143 :: s144 :: s145 :: s146 :: s147 :: s148 :: s149 :: s150 :: s151 :: s152 :: s153 :: s154 :: s155 :: s156 :: s157 :: s158 :: s159 :: s160 :: s161 :: s162 :: s163 :: s164 :: s165 :: s166 :: s167 :: s168 :: s169 :: s170 :: s171 :: s172 :: s173 :: s174 :: s175 :: s176 :: s177 :: s178 :: s179 :: s180 :: s181 :: s182 :: s183 :: s184 :: s185 :: s186 :: s187 :: s188 :: s189 :: s190 :: s191 :: s192 :: s193 :: s194 :: s195 :: s196 :: s197 :: s198 :: s199 :: s200 :: s201 :: s202 :: s203 :: s204 :: s205 :: s206 :: s207 :: s208 :: s209 :: s210 :: s211 :: s212 :: s213 :: s214 :: s215 :: s216 :: s217 :: s218 :: s219 :: s220 :: s221 :: s222 :: s223 :: s224 :: s225 :: s226 :: s227 :: s228 :: s229 :: s230 :: s231 :: s232 :: s233 :: s234 :: s235 :: s236 :: s237 :: s238 :: s239 :: s240 :: s241 :: x242 :: x243 :: x244 :: x245 :: x246 :: x247 :: x248 :: x249 :: x250 :: x251 :: x252 :: x253 :: x254 :: x255 :: x256 :: x257 :: s258 :: s259 :: s260 :: s261 :: s262 :: s263 :: s264 :: s265 :: s266 :: s267 :: s268 :: s269 :: s270 :: s271 :: s272 :: s273 :: s274 :: s275 :: s276 :: s277 :: s278 :: s279 :: s280 :: s281 :: s282 :: s283 :: s284 :: s285 :: s286 :: s287 :: s288 :: s289 :: s290 :: s291 :: s292 :: []), []⟩ wq)) :
    Code.wp Tryd.prog (Code.loop ((Tryd.f77.body.bind (loopAt 36)).getD .skip)) Q0 ⟨List.toArray (s0 :: s1 :: s2 :: s3 :: .slice (some ⟨bh, oh, none⟩) 8 ch :: s5 :: s6 :: s7 :: s8 :: s9 :: s10 :: s11 :: s12 :: s13 :: .slice (some ⟨bv, ov, none⟩) 8 cv :: s15 :: s16 :: s17 :: s18 :: s19 :: s20 :: .slice none 0 0 :: .int .i64 0 :: s23 :: s24 :: s25 :: s26 :: s27 :: s28 :: s29 :: s30 :: s31 :: s32 :: s33 :: s34 :: s35 :: s36 :: s37 :: s38 :: s39 :: s40 :: s41 :: s42 :: s43 :: s44 :: s45 :: s46 :: s47 :: s48 :: s49 :: s50 :: s51 :: s52 :: s53 :: s54 :: s55 :: s56 :: s57 :: s58 :: s59 :: s60 :: s61 :: s62 :: s63 :: s64 :: s65 :: s66 :: s67 :: s68 :: s69 :: s70 :: s71 :: s72 :: s73 :: s74 :: s75 :: s76 :: s77 :: s78 :: s79 :: s80 :: s81 :: s82 :: s83 :: s84 :: s85 :: s86 :: s87 :: s88 :: s89 :: s90 :: s91 :: s92 :: s93 :: s94 :: s95 :: s96 :: s97 :: s98 :: s99 :: s100 :: s101 :: s102 :: s103 :: s104 :: s105 :: s106 :: s107 :: s108 :: s109 :: s110 :: s111 :: s112 :: s113 :: s114 :: s115 :: s116 :: s117 :: s118 :: s119 :: s120 :: s121 :: s122 :: s123 :: s124 :: s125 :: s126 :: s127 :: s128 :: s129 :: s130 :: s131 :: s132 :: s133 :: s134 :: s135 :: s136 :: s137 :: s138 :: s139 :: s140 :: s141 :: s142 :: s143 :: s144 :: s145 :: s146 :: s147 :: s148 :: s149 :: s150 :: s151 :: s152 :: s153 :: s154 :: s155 :: s156 :: s157 :: s158 :: s159 :: s160 :: s161 :: s162 :: s163 :: s164 :: s165 :: s166 :: s167 :: s168 :: s169 :: s170 :: s171 :: s172 :: s173 :: s174 :: s175 :: s176 :: s177 :: s178 :: s179 :: s180 :: s181 :: s182 :: s183 :: s184 :: s185 :: s186 :: s187 :: s188 :: s189 :: s190 :: s191 :: s192 :: s193 :: s194 :: s195 :: s196 :: s197 :: s198 :: s199 :: s200 :: s201 :: s202 :: s203 :: s204 :: s205 :: s206 :: s207 :: s208 :: s209 :: s210 :: s211 :: s212 :: s213 :: s214 :: s215 :: s216 :: s217 :: s218 :: s219 :: s220 :: s221 :: s222 :: s223 :: s224 :: s225 :: s226 :: s227 :: s228 :: s229 :: s230 :: s231 :: s232 :: s233 :: s234 :: s235 :: s236 :: s237 :: s238 :: s239 :: s240 :: s241 :: s242 :: s243 :: s244 :: s245 :: s246 :: s247 :: s248 :: s249 :: s250 :: s251 :: s252 :: s253 :: s254 :: s255 :: s256 :: s257 :: s258 :: s259 :: s260 :: s261 :: s262 :: s263 :: s264 :: s265 :: s266 :: s267 :: s268 :: s269 :: s270 :: s271 :: s272 :: s273 :: s274 :: s275 :: s276 :: s277 :: s278 :: s279 :: s280 :: s281 :: s282 :: s283 :: s284 :: s285 :: s286 :: s287 :: s288 :: s289 :: s290 :: s291 :: s292 :: []), []⟩ w := by
  conv => arg 2; arg 1; whnf
  obtain ⟨j0, ji, jz0, jz1, jz2⟩ := parts_of info32
  go_loopw [21, 22] (fun v i wq => ∃ t : Nat, t ≤ 8 ∧ i = .int .i64 (t : Int) ∧ Hid (Sm w3 B1 bh oh h bv ov R v t wq)) (fun _ i _ => 8 - (intOf i).toNat)
  case atStart => exact ⟨0, Nat.zero_le _, rfl, HA0⟩
  case round =>
    obtain ⟨t, ht, rfl, HA1⟩ := hrel
    by_cases ht8 : t < 8
    · obtain ⟨_, _, e1, hbh1, kh⟩ := HA1.out.rh.at ht8
      injection e1 with e1
      injection e1 with e1 e2
      subst e1 e2
      obtain ⟨_, _, e1, hbv1, kv⟩ := HA1.out.rv.at ht8
      injection e1 with e1
      injection e1 with e1 e2
      subst e1 e2
      have HD1 := Lib.hid (HA1.out.drew (q := 1))
      have hsz : B1 ≤ wr.drew.heap.size := HD1.out.sz
      have hown : wr.drew.ownsRow B1 101 1 u21 t (((adds h R t).map wi).map (Value.int .u32)) := HD1.out.own
      have HOW := Lib.hid hown
      have KD : Hid (wr.drew.cell? ⟨bh, oh + t, none⟩ = some (.int .u32 (wi (wat h t))) ∧ wr.drew.cell? ⟨bv, ov + t, none⟩ = some (.int .u32 (wi (wat R t)))) := ⟨kh, kv⟩
      have KK : Hid (∀ w', Below B1 wr.drew w' → w'.cell? ⟨bh, oh + t, none⟩ = some (.int .u32 (wi (wat h t))) ∧ w'.cell? ⟨bv, ov + t, none⟩ = some (.int .u32 (wi (wat R t)))) := fun w' hw => ⟨(hw.cell (p := ⟨bh, oh + t, none⟩) hbh1).trans kh, (hw.cell (p := ⟨bv, ov + t, none⟩) hbv1).trans kv⟩
      have KA : Hid (∀ o, Below B1 wr.drew (wr.drew.alloc o)) := fun o => (Below.refl B1 wr.drew).alloc hsz o
      clear hown hbh1 hbv1
      go_wp2_with fail
      go_region_held3 (fun wz => wz.cell? ⟨bh, oh + t, none⟩ = some (.int .u32 (wi (wat h t))) ∧ wz.cell? ⟨bv, ov + t, none⟩ = some (.int .u32 (wi (wat R t)))) (first | exact m0 | exact KD.out | exact KK.out _ (KA.out _)) (first
        | (refine step_push rfl (.tmp 246) (.tmp 256) 132 rfl B1 j0 4 Tryd.underlying132 ji jz0 jz1 jz2 _ t ((adds h R t).map wi) rfl HOW.out rfl (by omega) (by omega) hsz ?_; intro v4 w4 hown4 hb4 _ _; have m0 := KK.out _ hb4; have HOW4 := Lib.hid hown4; have HB4 := Lib.hid hb4; clear hown4 hb4))
      have HA2 := Lib.hid (Sm.push HD1.out HOW4.out HB4.out)
      go_wp2
      go_roundw
      case rel => first | exact ⟨t + 1, by omega, by go_num, HA2⟩ | ((repeat apply Exists.intro); exact ⟨⟨t + 1, by omega, by go_num, HA2⟩, rfl⟩)
      case measure => simp [intOf]; omega
    · obtain rfl : t = 8 := by omega
      go_wp2_with fail
      exact HEX.out _ _ _ _ _ _ _ _ _ _ _ _ _ _ _ _ _ _ _ HA1
end Go.Proofs.YtppbpmmfcoblmaaDoor.Sha
