/- Lemmas that the proof stands on, in build order: ShaS5 ShaS HmcR Min HmcD TokR FldWb Cln Slc CrcT. -/
import Derived.ArgAppend
import Derived.Laws.IdiomStrings
import Derived.Laws.IdiomCopy
import Derived.RegionTactic
import Derived.Deep.RegionHeld3
import Derived.BigQuiet
import Derived.Test.YtmkdbpdfonpfdaaDoorProg
import Derived.WalkKit
import Derived.KernelRfl
import Derived.WalkMore
import Derived.Lib.Walk
import Derived.Lib.SliceRun
import Derived.Lib.AppendZerosOnto
import Derived.Laws.BytesArg
import Derived.Lib.Bytes
import Derived.Deep.WholeRow
import Derived.Laws.ResultCell
import Derived.Test.YtmkdbpdfonpfdaaDoorJ127b64a
import Derived.Test.YtmkdbpdfonpfdaaDoorJ30798c8
import Derived.Test.YtmkdbpdfonpfdaaDoorJ48595ad
import Derived.Test.YtmkdbpdfonpfdaaDoorJ57ad6f8
/- Layer 7 (sha): the reference's Sum: its sums. -/
namespace Go.Proofs.YtmkdbpdfonpfdaaDoor.Sha
open Go.RowKit

attribute [local go_sem] wi_xor wi_and wi_or wi_add wi_shr3 wi_shr10 wi_com

set_option maxHeartbeats 6400000 in
set_option maxRecDepth 1000000 in
theorem loop_adds {Q0 : Exit → Act → World → Prop} {s0 s1 s2 s3 s5 s6 s7 s8 s9 s10 s11 s12 s13 s15 s16 s17 s18 s19 s20 s23 s24 s25 s26 s27 s28 s29 s30 s31 s32 s33 s34 s35 s36 s37 s38 s39 s40 s41 s42 s43 s44 s45 s46 s47 s48 s49 s50 s51 s52 s53 s54 s55 s56 s57 s58 s59 s60 s61 s62 s63 s64 s65 s66 s67 s68 s69 s70 s71 s72 s73 s74 s75 s76 s77 s78 s79 s80 s81 s82 s83 s84 s85 s86 s87 s88 s89 s90 s91 s92 s93 s94 s95 s96 s97 s98 s99 s100 s101 s102 s103 s104 s105 s106 s107 s108 s109 s110 s111 s112 s113 s114 s115 s116 s117 s118 s119 s120 s121 s122 s123 s124 s125 s126 s127 s128 s129 s130 s131 s132 s133 s134 s135 s136 s137 s138 s139 s140 s141 s142 s143 s144 s145 s146 s147 s148 s149 s150 s151 s152 s153 s154 s155 s156 s157 s158 s159 s160 s161 s162 s163 s164 s165 s166 s167 s168 s169 s170 s171 s172 s173 s174 s175 s176 s177 s178 s179 s180 s181 s182 s183 s184 s185 s186 s187 s188 s189 s190 s191 s192 s193 s194 s195 s196 s197 s198 s199 s200 s201 s202 s203 s204 s205 s206 s207 s208 s209 s210 s211 s212 s213 s214 s215 s216 s217 s218 s219 s220 s221 s222 s223 s224 s225 s226 s227 s228 s229 s230 s231 s232 s233 s234 s235 s236 s237 s238 s239 s240 s241 s242 s243 s244 s245 s246 s247 s248 s249 s250 s251 s252 s253 s254 s255 s256 s257 s258 s259 s260 s261 s262 s263 s264 s265 s266 s267 s268 s269 s270 s271 s272 s273 s274 s275 s276 s277 s278 s279 s280 s281 s282 s283 s284 s285 s286 s287 s288 s289 s290 s291 s292 : Value} {w3 w : World} {h R : List Wd} {B1 bh oh ch bv ov cv : Nat}
    (HA0 : Hid (Sm w3 B1 bh oh h bv ov R (.slice none 0 0) 0 w))
    (HEX : Hid (∀ (x21 x22 x242 x243 x244 x245 x246 x247 x248 x249 x250 x251 x252 x253 x254 x255 x256 x257 : Value) (wq : World), Hid (Sm w3 B1 bh oh h bv ov R x21 8 wq) → Q0 (.exit 10) ⟨List.toArray (s0 :: s1 :: s2 :: s3 :: .slice (some ⟨bh, oh, none⟩) 8 ch :: s5 :: s6 :: s7 :: s8 :: s9 :: s10 :: s11 :: s12 :: s13 :: .slice (some ⟨bv, ov, none⟩) 8 cv :: s15 :: s16 :: s17 :: s18 :: s19 :: s20 :: x21 :: x22 :: s23 :: s24 :: s25 :: s26 :: s27 :: s28 :: s29 :: s30 :: s31 :: s32 :: s33 :: s34 :: s35 :: s36 :: s37 :: s38 :: s39 :: s40 :: s41 :: s42 :: s43 :: s44 :: s45 :: s46 :: s47 :: s48 :: s49 :: s50 :: s51 :: s52 :: s53 :: s54 :: s55 :: s56 :: s57 :: s58 :: s59 :: s60 :: s61 :: s62 :: s63 :: s64 :: s65 :: s66 :: s67 :: s68 :: s69 :: s70 :: s71 :: s72 :: s73 :: s74 :: s75 :: s76 :: s77 :: s78 :: s79 :: s80 :: s81 :: s82 :: s83 :: s84 :: s85 :: s86 :: s87 :: s88 :: s89 :: s90 :: s91 :: s92 :: s93 :: s94 :: s95 :: s96 :: s97 :: s98 :: s99 :: s100 :: s101 :: s102 :: s103 :: s104 :: s105 :: s106 :: s107 :: s108 :: s109 :: s110 :: s111 :: s112 :: s113 :: s114 :: s115 :: s116 :: s117 :: s118 :: s119 :: s120 :: s121 :: s122 :: s123 :: s124 :: s125 :: s126 :: s127 :: s128 :: s129 :: s130 :: s131 :: s132 :: s133 :: s134 :: s135 :: s136 :: s137 :: s138 :: s139 :: s140 :: s141 :: s142 :: s143 :: s144 :: s145 :: s146 :: s147 :: s148 :: s149 :: s150 :: s151 :: s152 :: s153 :: s154 :: s155 :: s156 :: s157 :: s158 :: s159 :: s160 :: s161 :: s162 :: s163 :: s164 :: s165 :: s166 :: s167 :: s168 :: s169 :: s170 :: s171 :: s172 :: s173 :: s174 :: s175 :: s176 :: s177 :: s178 :: s179 :: s180 :: s181 :: s182 :: s183 :: s184 :: s185 :: s186 :: s187 :: s188 :: s189 :: s190 :: s191 :: s192 :: s193 :: s194 :: s195 :: s196 :: s197 :: s198 :: s199 :: s200 :: s201 :: s202 :: s203 :: s204 :: s205 :: s206 :: s207 :: s208 :: s209 :: s210 :: s211 :: s212 :: s213 :: s214 :: s215 :: s216 :: s217 :: s218 :: s219 :: s220 :: s221 :: s222 :: s223 :: s224 :: s225 :: s226 :: s227 :: s228 :: s229 :: s230 :: s231 :: s232 :: s233 :: s234 :: s235 :: s236 :: s237 :: s238 :: s239 :: s240 :: s241 :: x242 :: x243 :: x244 :: x245 :: x246 :: x247 :: x248 :: x249 :: x250 :: x251 :: x252 :: x253 :: x254 :: x255 :: x256 :: x257 :: s258 :: s259 :: s260 :: s261 :: s262 :: s263 :: s264 :: s265 :: s266 :: s267 :: s268 :: s269 :: s270 :: s271 :: s272 :: s273 :: s274 :: s275 :: s276 :: s277 :: s278 :: s279 :: s280 :: s281 :: s282 :: s283 :: s284 :: s285 :: s286 :: s287 :: s288 :: s289 :: s290 :: s291 :: s292 :: []), []⟩ wq)) :
    Code.wp Tryd.prog (Code.loop ((Tryd.f90.body.bind (loopAt 36)).getD .skip)) Q0 ⟨List.toArray (s0 :: s1 :: s2 :: s3 :: .slice (some ⟨bh, oh, none⟩) 8 ch :: s5 :: s6 :: s7 :: s8 :: s9 :: s10 :: s11 :: s12 :: s13 :: .slice (some ⟨bv, ov, none⟩) 8 cv :: s15 :: s16 :: s17 :: s18 :: s19 :: s20 :: .slice none 0 0 :: .int .i64 0 :: s23 :: s24 :: s25 :: s26 :: s27 :: s28 :: s29 :: s30 :: s31 :: s32 :: s33 :: s34 :: s35 :: s36 :: s37 :: s38 :: s39 :: s40 :: s41 :: s42 :: s43 :: s44 :: s45 :: s46 :: s47 :: s48 :: s49 :: s50 :: s51 :: s52 :: s53 :: s54 :: s55 :: s56 :: s57 :: s58 :: s59 :: s60 :: s61 :: s62 :: s63 :: s64 :: s65 :: s66 :: s67 :: s68 :: s69 :: s70 :: s71 :: s72 :: s73 :: s74 :: s75 :: s76 :: s77 :: s78 :: s79 :: s80 :: s81 :: s82 :: s83 :: s84 :: s85 :: s86 :: s87 :: s88 :: s89 :: s90 :: s91 :: s92 :: s93 :: s94 :: s95 :: s96 :: s97 :: s98 :: s99 :: s100 :: s101 :: s102 :: s103 :: s104 :: s105 :: s106 :: s107 :: s108 :: s109 :: s110 :: s111 :: s112 :: s113 :: s114 :: s115 :: s116 :: s117 :: s118 :: s119 :: s120 :: s121 :: s122 :: s123 :: s124 :: s125 :: s126 :: s127 :: s128 :: s129 :: s130 :: s131 :: s132 :: s133 :: s134 :: s135 :: s136 :: s137 :: s138 :: s139 :: s140 :: s141 :: s142 :: s143 :: s144 :: s145 :: s146 :: s147 :: s148 :: s149 :: s150 :: s151 :: s152 :: s153 :: s154 :: s155 :: s156 :: s157 :: s158 :: s159 :: s160 :: s161 :: s162 :: s163 :: s164 :: s165 :: s166 :: s167 :: s168 :: s169 :: s170 :: s171 :: s172 :: s173 :: s174 :: s175 :: s176 :: s177 :: s178 :: s179 :: s180 :: s181 :: s182 :: s183 :: s184 :: s185 :: s186 :: s187 :: s188 :: s189 :: s190 :: s191 :: s192 :: s193 :: s194 :: s195 :: s196 :: s197 :: s198 :: s199 :: s200 :: s201 :: s202 :: s203 :: s204 :: s205 :: s206 :: s207 :: s208 :: s209 :: s210 :: s211 :: s212 :: s213 :: s214 :: s215 :: s216 :: s217 :: s218 :: s219 :: s220 :: s221 :: s222 :: s223 :: s224 :: s225 :: s226 :: s227 :: s228 :: s229 :: s230 :: s231 :: s232 :: s233 :: s234 :: s235 :: s236 :: s237 :: s238 :: s239 :: s240 :: s241 :: s242 :: s243 :: s244 :: s245 :: s246 :: s247 :: s248 :: s249 :: s250 :: s251 :: s252 :: s253 :: s254 :: s255 :: s256 :: s257 :: s258 :: s259 :: s260 :: s261 :: s262 :: s263 :: s264 :: s265 :: s266 :: s267 :: s268 :: s269 :: s270 :: s271 :: s272 :: s273 :: s274 :: s275 :: s276 :: s277 :: s278 :: s279 :: s280 :: s281 :: s282 :: s283 :: s284 :: s285 :: s286 :: s287 :: s288 :: s289 :: s290 :: s291 :: s292 :: []), []⟩ w := by
  conv => arg 2; arg 1; whnf
  obtain ⟨j0, ji, jz0, jz1, jz2⟩ := parts_of info32
  go_loopw [21, 22] (fun v i wq => ∃ t : Nat, t ≤ 8 ∧ i = .int .i64 (t : Int) ∧ Hid (Sm w3 B1 bh oh h bv ov R v t wq)) (fun _ i _ => 8 - (intOf i).toNat)
  case atStart => exact ⟨0, Nat.zero_le _, rfl, HA0⟩
  case round =>
    obtain ⟨t, ht, rfl, HA1⟩ := hrel
    by_cases ht8 : t < 8
    · obtain ⟨_, _, e1, hbh1, kh⟩ := HA1.out.rh.at ht8
      injection e1 with e1
      injection e1 with e1 e2
      subst e1 e2
      obtain ⟨_, _, e1, hbv1, kv⟩ := HA1.out.rv.at ht8
      injection e1 with e1
      injection e1 with e1 e2
      subst e1 e2
      have HD1 := Lib.hid (HA1.out.drew (q := 1))
      have hsz : B1 ≤ wr.drew.heap.size := HD1.out.sz
      have hown : wr.drew.ownsRow B1 87 1 u21 t (((adds h R t).map wi).map (Value.int .u32)) := HD1.out.own
      have HOW := Lib.hid hown
      have KD : Hid (wr.drew.cell? ⟨bh, oh + t, none⟩ = some (.int .u32 (wi (wat h t))) ∧ wr.drew.cell? ⟨bv, ov + t, none⟩ = some (.int .u32 (wi (wat R t)))) := ⟨kh, kv⟩
      have KK : Hid (∀ w', Below B1 wr.drew w' → w'.cell? ⟨bh, oh + t, none⟩ = some (.int .u32 (wi (wat h t))) ∧ w'.cell? ⟨bv, ov + t, none⟩ = some (.int .u32 (wi (wat R t)))) := fun w' hw => ⟨(hw.cell (p := ⟨bh, oh + t, none⟩) hbh1).trans kh, (hw.cell (p := ⟨bv, ov + t, none⟩) hbv1).trans kv⟩
      have KA : Hid (∀ o, Below B1 wr.drew (wr.drew.alloc o)) := fun o => (Below.refl B1 wr.drew).alloc hsz o
      clear hown hbh1 hbv1
      go_wp2_with fail
      go_region_held3 (fun wz => wz.cell? ⟨bh, oh + t, none⟩ = some (.int .u32 (wi (wat h t))) ∧ wz.cell? ⟨bv, ov + t, none⟩ = some (.int .u32 (wi (wat R t)))) (first | exact m0 | exact KD.out | exact KK.out _ (KA.out _)) (first
        | (refine step_push rfl (.tmp 246) (.tmp 256) 131 rfl B1 j0 4 Tryd.underlying131 ji jz0 jz1 jz2 _ t ((adds h R t).map wi) rfl HOW.out rfl (by omega) (by omega) hsz ?_; intro v4 w4 hown4 hb4 _ _; have m0 := KK.out _ hb4; have HOW4 := Lib.hid hown4; have HB4 := Lib.hid hb4; clear hown4 hb4))
      have HA2 := Lib.hid (Sm.push HD1.out HOW4.out HB4.out)
      go_wp2
      go_roundw
      case rel => first | exact ⟨t + 1, by omega, by go_num, HA2⟩ | ((repeat apply Exists.intro); exact ⟨⟨t + 1, by omega, by go_num, HA2⟩, rfl⟩)
      case measure => simp [intOf]; omega
    · obtain rfl : t = 8 := by omega
      go_wp2_with fail
      exact HEX.out _ _ _ _ _ _ _ _ _ _ _ _ _ _ _ _ _ _ _ HA1
end Go.Proofs.YtmkdbpdfonpfdaaDoor.Sha

/- Layer 7 (sha): the reference's Sum, as a contract. -/
namespace Go.Proofs.YtmkdbpdfonpfdaaDoor.Sha
open Go.RowKit

attribute [local go_sem] wi_xor wi_and wi_or wi_add wi_shr3 wi_shr10 wi_com

set_option maxHeartbeats 12800000 in
set_option maxRecDepth 1000000 in
theorem refsum_any (A : Option Addr) (n c : Nat) (b : List Int) (w : World) (h : Row .u8 w w.heap.size A n b) (hnil : A = none → c = 0) (hn : n ≤ 1099511627776) (hbyt : ∀ x ∈ b, 0 ≤ x ∧ x ≤ 255) :
    Calls Tryd.prog 90 #[.slice A n c] w fun e w' => ∃ v, e = .returned v ∧ w'.ownsRow w.heap.size 5 1 v 32 ((outs (blocks ks hs (pad b) ((pad b).length / 64)) 8).map (Value.int .u8)) ∧ Below w.heap.size w w' := by
  obtain ⟨i0, hi, hz0, hz1, hz2⟩ := parts_of info8
  obtain ⟨j0, ji, jz0, jz1, jz2⟩ := parts_of info32
  have H := Lib.hid h
  have HI := Lib.hid hnil
  have HY := Lib.hid hbyt
  clear h hnil hbyt
  go_enter Tryd.func90, Tryd.ntmps90
  go_wp2_with fail
  refine (constants_any w).mono ?_
  rintro e1 w1 ⟨v1, rfl, hown1, hb1⟩
  have HO1 := Lib.hid hown1
  have HB1 := Lib.hid hb1
  clear hown1 hb1
  go_wp2_with fail
  refine (begin_any w1).mono ?_
  rintro e2 w2 ⟨v2, rfl, hown2, hb2⟩
  have HO2 := Lib.hid hown2
  have HB2 := Lib.hid hb2
  clear hown2 hb2
  go_wp2_with fail
  refine (padded_any A n c b w2 (((H.out.below HB1.out).more HB1.out.size |>.below HB2.out).more HB2.out.size) HI.out hn).mono ?_
  rintro e3 w3 ⟨v3, rfl, hown3, hb3⟩
  have HO3 := Lib.hid hown3
  have HB3 := Lib.hid hb3
  clear hown3 hb3
  obtain ⟨A1, c1, rfl, -, -⟩ := own_slice HO1.out
  obtain ⟨A2, c2, rfl, -, hnil2⟩ := own_slice HO2.out
  obtain ⟨A3, c3, rfl, -, -⟩ := own_slice HO3.out
  have HK : Hid (WRow w3 w3.heap.size A1 64 ks) := (((Row.of_own HO1.out).below HB2.out).more HB2.out.size |>.below HB3.out).more HB3.out.size
  have HH : Hid (WRow w3 w3.heap.size A2 8 hs) := ((Row.of_own HO2.out).below HB3.out).more HB3.out.size
  have HA : Hid (Row .u8 w3 w3.heap.size A3 (pad b).length (pad b)) := Row.of_own HO3.out
  have HBW : Hid (Below w.heap.size w w3) := HB1.out.trans ((HB2.out.trans (HB3.out.mono HB2.out.size)).mono HB1.out.size)
  have HN2 := Lib.hid hnil2
  have hp64 := pad_64 b
  have hpl := pad_len b
  have hz := zeros_le b.length
  have hbl := H.out.len
  have HPB := Lib.hid (pad_byt HY.out)
  clear HO1 HO2 HO3 HB1 HB2 HB3 hnil2 H HI HY
  obtain ⟨p, hp⟩ : ∃ p, pad b = p := ⟨_, rfl⟩
  rw [hp] at HA hp64 hpl HPB ⊢
  have HPP := Lib.hid hp
  clear hp
  obtain ⟨P, hP⟩ : ∃ P, p.length = P := ⟨_, rfl⟩
  rw [hP] at HA hp64 hpl ⊢
  have hPb : P ≤ 1099511627900 := by omega
  obtain ⟨M, hM⟩ : ∃ M, P / 64 = M := ⟨_, rfl⟩
  have hPM : P = 64 * M := by omega
  obtain ⟨b3, o3, rfl, hb3, -⟩ := HA.out.cell_at (show 0 < P by omega)
  obtain ⟨b1, o1, rfl, hb1, -⟩ := Row.cell_at HK.out (show 0 < 64 by omega)
  have HMM := Lib.hid hM
  have HPM := Lib.hid hPM
  have HPL := Lib.hid hP
  clear hM hp64 hpl hz hbl hP hPM
  go_wp2_with fail
  go_loopw [4, 6] (fun vh i wr => ∃ (m : Nat) (Ah : Option Addr) (ch : Nat), m ≤ M ∧ i = .int .i64 (64 * (m : Int)) ∧ vh = .slice Ah 8 ch ∧ (Ah = none → ch = 0) ∧ Hid (WRow wr wr.heap.size Ah 8 (blocks ks hs p m)) ∧ Hid (Below w3.heap.size w3 wr)) (fun _ i _ => P - (intOf i).toNat)
  case atStart => exact ⟨0, A2, c2, Nat.zero_le _, rfl, rfl, HN2.out, HH, Below.refl _ _⟩
  case round =>
    obtain ⟨m, Ah, ch, hm, rfl, rfl, hnilh, HHR, HB⟩ := hrel
    by_cases hlt : m < M
    · have hcast : 64 * (m : Int) < (P : Int) := by have := HPM.out; omega
      have h64 : 64 * m + 64 ≤ P := by have := HPM.out; omega
      obtain ⟨B0, hB0⟩ : ∃ B0, wr.heap.size = B0 := ⟨_, rfl⟩
      have HX : Hid (Blk w3 B0 Ah (blocks ks hs p m) (.slice none 0 0) 0 (words p (64 * m) 0) wr) := ⟨World.ownsRow_nil _ _ _ _, by rw [← hB0]; exact HHR.out, HB.out, by omega, by rw [← hB0]; exact HB.out.size⟩
      clear HHR HB hB0
      go_wp2_with fail
      refine loop_words HA HPB h64 hPb HX ?_
      refine Lib.hid ?_
      intro x7 x8 x9 x10 x35 x36 x37 x38 x39 x40 x41 x42 x43 x44 x45 x46 x47 x48 x49 x50 x51 x52 x53 x54 x55 x56 x57 x58 x59 wq HW
      have HW0 : Hid ((words p (64 * m) 16).length = 16) := words_len _ _ _
      have HS : Hid (Blk w3 B0 Ah (blocks ks hs p m) x7 16 (sched (16 - 16) (words p (64 * m) 16)) wq) := HW
      clear HW HX
      go_wp2_with fail
      refine loop_sched HW0 HS ?_
      refine Lib.hid ?_
      clear HS
      intro x7 x11 x12 x13 x60 x61 x62 x63 x64 x65 x66 x67 x68 x69 x70 x71 x72 x73 x74 x75 x76 x77 x78 x79 x80 x81 x82 x83 x84 x85 x86 x87 x88 x89 x90 x91 x92 x93 x94 x95 x96 x97 x98 x99 x100 x101 x102 x103 x104 x105 x106 x107 x108 x109 x110 x111 x112 x113 x114 x115 x116 x117 x118 x119 x120 x121 wr HS
      have HNH := Lib.hid hnilh
      have HV0 : Hid (wr.ownsRow wr.heap.size 87 1 (.slice none 0 0) 0 (([] : List Int).map (Value.int .u32))) := World.ownsRow_nil _ _ _ _
      have hsz := HS.out.sz
      clear hnilh
      go_wp2_with (at_builtin; refine cat_own rfl (.tmp 122) (.tmp 123) 131 rfl wr.heap.size 87 j0 .u32 4 Tryd.underlying131 ji jz0 jz1 jz2 _ 0 [] rfl HV0.out B0 Ah 8 ch ((blocks ks hs p m).map wi) rfl HNH.out HS.out.row (by omega) (by omega) (Nat.le_refl _) ?_; intro v4 w4 hown4 hb4; have HOW4 := Lib.hid hown4; have HB4 := Lib.hid hb4; clear hown4 hb4)
      obtain ⟨A4, c4, rfl, -, -⟩ := own_slice HOW4.out
      obtain ⟨g4, rfl, -⟩ := own_at HOW4.out (by omega)
      have HS4 := Lib.hid (HS.out.below HB4.out)
      have HV4 : Hid (WRow w4 w4.heap.size (some ⟨g4, 0, none⟩) 8 (rounds ks (sched 48 (words p (64 * m) 16)) (blocks ks hs p m) 0)) := by
        have := Row.of_own HOW4.out
        exact this
      clear HOW4 HB4 HV0 HS hsz
      refine loop_rounds HK HV4 HS4 ?_
      refine Lib.hid ?_
      clear HV4 HS4
      rintro x14 x15 x16 x17 x18 x19 x20 x125 x126 x127 x128 x129 x130 x131 x132 x133 x134 x135 x136 x137 x138 x139 x140 x141 x142 x143 x144 x145 x146 x147 x148 x149 x150 x151 x152 x153 x154 x155 x156 x157 x158 x159 x160 x161 x162 x163 x164 x165 x166 x167 x168 x169 x170 x171 x172 x173 x174 x175 x176 x177 x178 x179 x180 x181 x182 x183 x184 x185 x186 x187 x188 x189 x190 x191 x192 x193 x194 x195 x196 x197 x198 x199 x200 x201 x202 x203 x204 x205 x206 x207 x208 x209 x210 x211 x212 x213 x214 x215 x216 x217 x218 x219 x220 x221 x222 x223 x224 x225 x226 x227 x228 x229 x230 x231 x232 x233 x234 x235 x236 x237 x238 x239 x240 x241 wr ⟨bv, ov, cv, rfl, HV, HS⟩
      obtain ⟨bh, oh, rfl, hbh, -⟩ := HS.out.row.at (show 0 < 8 by omega)
      obtain ⟨B1, hB1⟩ : ∃ B1, wr.heap.size = B1 := ⟨_, rfl⟩
      have HBL : Hid (blocks ks hs p (m + 1) = adds (blocks ks hs p m) (rounds ks (sched 48 (words p (64 * m) 16)) (blocks ks hs p m) 64) 8) := rfl
      have HA0 : Hid (Sm w3 B1 bh oh (blocks ks hs p m) bv ov (rounds ks (sched 48 (words p (64 * m) 16)) (blocks ks hs p m) 64) (.slice none 0 0) 0 wr) :=
        ⟨World.ownsRow_nil _ _ _ _, HS.out.row.more (by have := HS.out.sz; omega), by rw [← hB1]; exact HV.out, HS.out.bel, by omega, by have := HS.out.base; have := HS.out.sz; omega⟩
      generalize rounds ks (sched 48 (words p (64 * m) 16)) (blocks ks hs p m) 64 = R at HBL HA0
      clear HV HS hB1
      go_wp2_with fail
      refine loop_adds HA0 ?_
      refine Lib.hid ?_
      clear HA0
      intro x21 x22 x242 x243 x244 x245 x246 x247 x248 x249 x250 x251 x252 x253 x254 x255 x256 x257 wr HA1
      obtain ⟨A9, c9, rfl, -, hnil9⟩ := own_slice HA1.out.own
      have HR9 : Hid (WRow wr wr.heap.size A9 8 (blocks ks hs p (m + 1))) := by rw [HBL.out]; exact Row.of_own HA1.out.own
      have HN9 := Lib.hid hnil9
      have HB9 := Lib.hid HA1.out.bel
      clear HA1 hnil9
      go_wp2
      go_roundw
      case rel => first | exact ⟨m + 1, A9, c9, by omega, congrArg (Value.int .i64) (by omega), rfl, HN9.out, HR9, HB9⟩ | ((repeat apply Exists.intro); exact ⟨⟨m + 1, A9, c9, by omega, congrArg (Value.int .i64) (by omega), rfl, HN9.out, HR9, HB9⟩, rfl⟩)
      case measure => simp [intOf]; omega
    · have hmM : m = M := by omega
      have hcast : ¬ 64 * (m : Int) < (P : Int) := by have := HPM.out; omega
      obtain ⟨bh, oh, rfl, -, -⟩ := HHR.out.at (show 0 < 8 by omega)
      obtain ⟨B1, hB1⟩ : ∃ B1, wr.heap.size = B1 := ⟨_, rfl⟩
      have HO0 : Hid (Ou w3 B1 bh oh (blocks ks hs p m) (.slice none 0 0) 0 wr) := ⟨World.ownsRow_nil _ _ _ _, by rw [← hB1]; exact HHR.out, HB.out, by omega, by rw [← hB1]; exact HB.out.size⟩
      have HMP : Hid (m = P / 64) := by unfold Hid; rw [HMM.out]; exact hmM
      clear HHR HB hB1 hmM
      go_wp2_with fail
      go_loopw [23, 24] (fun v i wq => ∃ t : Nat, t ≤ 8 ∧ i = .int .i64 (t : Int) ∧ Hid (Ou w3 B1 bh oh (blocks ks hs p m) v t wq)) (fun _ i _ => 8 - (intOf i).toNat)
      case atStart => exact ⟨0, Nat.zero_le _, rfl, HO0⟩
      case round =>
        obtain ⟨t, ht, rfl, HO1⟩ := hrel
        by_cases ht8 : t < 8
        · obtain ⟨_, _, e1, hbh1, kh⟩ := HO1.out.rh.at ht8
          injection e1 with e1
          injection e1 with e1 e2
          subst e1 e2
          obtain ⟨a, ha⟩ : ∃ a, wat (blocks ks hs p m) t = a := ⟨_, rfl⟩
          rw [ha] at kh
          have hab := wi_bd a
          have HD1 := Lib.hid (HO1.out.drew (q := 1))
          have hsz : B1 ≤ wr.drew.heap.size := HD1.out.sz
          have hown : wr.drew.ownsRow B1 5 1 u23 (4 * t) ((outs (blocks ks hs p m) t).map (Value.int .u8)) := HD1.out.own
          have HOW := Lib.hid hown
          have KD : Hid (wr.drew.cell? ⟨bh, oh + t, none⟩ = some (.int .u32 (wi a))) := kh
          have KK : Hid (∀ w', Below B1 wr.drew w' → w'.cell? ⟨bh, oh + t, none⟩ = some (.int .u32 (wi a))) := fun w' hw => (hw.cell (p := ⟨bh, oh + t, none⟩) hbh1).trans kh
          have KA : Hid (∀ o, Below B1 wr.drew (wr.drew.alloc o)) := fun o => (Below.refl B1 wr.drew).alloc hsz o
          have HAA := Lib.hid ha
          clear hown hbh1 ha
          go_wp2_with fail
          go_region_held3 (fun wz => wz.cell? ⟨bh, oh + t, none⟩ = some (.int .u32 (wi a))) (first | exact m0 | exact KD.out | exact KK.out _ (KA.out _)) (first
            | (refine step_lit rfl (.tmp 263) (.tmp 290) 29 rfl B1 i0 1 Tryd.underlying29 hi hz0 hz1 hz2 _ (4 * t) (outs (blocks ks hs p m) t) rfl HOW.out 4 [_, _, _, _] rfl rfl rfl (by omega) (by omega) hsz ?_; intro v4 w4 hown4 hb4; have m0 := KK.out _ hb4; have HOW4 := Lib.hid hown4; have HB4 := Lib.hid hb4; clear hown4 hb4))
          rw [out4_eq, ← HAA.out] at HOW4
          have HO2 := Lib.hid (Ou.push HD1.out HOW4.out HB4.out)
          go_wp2
          go_roundw
          case rel => first | exact ⟨t + 1, by omega, by go_num, HO2⟩ | ((repeat apply Exists.intro); exact ⟨⟨t + 1, by omega, by go_num, HO2⟩, rfl⟩)
          case measure => simp [intOf]; omega
        · obtain rfl : t = 8 := by omega
          go_wp2
          go_ret
          refine ⟨u23, rfl, ?_, HBW.out.trans (HO1.out.bel.mono HBW.out.size)⟩
          rw [HPP.out, HPL.out, ← HMP.out]
          exact own_low HO1.out.own (Nat.le_trans HBW.out.size HO1.out.base)
end Go.Proofs.YtmkdbpdfonpfdaaDoor.Sha

/- Layer 8 (hmac): the reference's Block, Tag and Derive, as contracts. -/
namespace Go.Proofs.YtmkdbpdfonpfdaaDoor.Hmc
open Go.RowKit Sha

set_option maxHeartbeats 1600000 in
set_option maxRecDepth 100000 in
theorem refblock_any (A : Option Addr) (n c : Nat) (k : List Int) (m : Int) (w : World) (h : Row .u8 w w.heap.size A n k) (hnil : A = none → c = 0) (hn : n ≤ 1099511627776) (hk : ∀ x ∈ k, 0 ≤ x ∧ x ≤ 255) (hm : 0 ≤ m ∧ m ≤ 255) :
    Calls Tryd.prog 91 #[.slice A n c, .int .u8 m] w fun e w' => ∃ v, e = .returned v ∧ w'.ownsRow w.heap.size 5 1 v 64 ((blk k m).map (Value.int .u8)) ∧ Below w.heap.size w w' := by
  obtain ⟨i0, hi, hz0, hz1, hz2⟩ := parts_of info8
  have H := Lib.hid h
  have HK := Lib.hid hk
  have HM := Lib.hid hm
  have HN := Lib.hid hnil
  have hl := h.len
  have HL := Lib.hid hl
  clear h hk hm hnil hl
  -- the loop, over the key as it is used
  by_cases hb : 64 < n
  · go_enter Tryd.func91, Tryd.ntmps91
    go_wp2_with fail
    refine (refsum_any A n c k w H.out HN.out hn HK.out).mono ?_
    rintro e1 w1 ⟨v1, rfl, hown1, hb1⟩
    obtain ⟨A1, c1, rfl, -, -⟩ := own_slice hown1
    have hky : ky k = sum256 k := by unfold ky; rw [if_pos (by rw [HL.out]; exact hb)]
    have HR1 : Hid (Row .u8 w1 w1.heap.size A1 32 (ky k)) := by rw [hky]; exact Row.of_own hown1
    have HB1 := Lib.hid hb1
    clear hown1 hb1 hky hb
    obtain ⟨K, hK⟩ : ∃ K, ky k = K := ⟨_, rfl⟩
    have HKB : Hid (∀ x ∈ K, 0 ≤ x ∧ x ≤ 255) := by rw [← hK]; exact ky_byt HK.out
    have hKL : 32 ≤ 64 := by
      have h1 := HR1.out.len
      have h2 := ky_len k
      omega
    rw [hK] at HR1
    have HKE := Lib.hid hK
    clear hK
    have HO0 : Hid (w1.ownsRow w1.heap.size 5 1 (.slice none 0 0) 0 ((pre K m 0).map (Value.int .u8))) := World.ownsRow_nil _ _ _ _
    have HB0 : Hid (Below w1.heap.size w1 w1) := Below.refl _ _
    go_wp2_with fail
    go_loopw [5, 6] (fun v i wr => ∃ j : Nat, j ≤ 64 ∧ i = .int .i64 (j : Int) ∧ Hid (wr.ownsRow w1.heap.size 5 1 v j ((pre K m j).map (Value.int .u8))) ∧ Hid (Below w1.heap.size w1 wr)) (fun _ i _ => 64 - (intOf i).toNat)
    case atStart => exact ⟨0, Nat.zero_le _, rfl, HO0, HB0⟩
    case round =>
      obtain ⟨j, hj, rfl, HO, HB⟩ := hrel
      by_cases hlt : j < 64
      · have hx := getD_byt HKB.out j
        have hbx := xr_bits _ _ hx HM.out
        by_cases hjn : j < 32
        · obtain ⟨bb, oo, rfl, hbb, kc⟩ := (HR1.out.below HB.out).cell_at hjn
          have HP : Hid (pre K m (j + 1) = pre K m j ++ [xr (K.getD j 0) m]) := rfl
          generalize xr (K.getD j 0) m = y at hbx HP
          generalize K.getD j 0 = x at kc hbx hx
          clear hx
          go_wp2_with (at_builtin; refine push_own rfl (.tmp 20) (.tmp 27) 29 rfl w1.heap.size 5 i0 .u8 1 Tryd.underlying29 hi hz0 hz1 hz2 _ j (pre K m j) y rfl HO.out rfl (by omega) (by omega) HB.out.size ?_; intro v3 w3 hown3 hb3; have HO3 := Lib.hid hown3; have HB3 := Lib.hid (HB.out.trans hb3); clear hown3 hb3)
          go_roundw
          case rel => exact ⟨j + 1, by omega, by go_num, by rw [HP.out]; exact HO3, HB3⟩
          case measure => simp [intOf]; omega
        · have hz : K.getD j 0 = 0 := by
            have := HR1.out.len
            simp [List.getD, List.getElem?_eq_none (by omega : K.length ≤ j)]
          have HP : Hid (pre K m (j + 1) = pre K m j ++ [m]) := by
            show pre K m j ++ [xr (K.getD j 0) m] = _
            rw [hz, xr_zero HM.out.1]
          clear hbx hx hz
          go_wp2_with (at_builtin; refine push_own rfl (.tmp 29) (.tmp 31) 29 rfl w1.heap.size 5 i0 .u8 1 Tryd.underlying29 hi hz0 hz1 hz2 _ j (pre K m j) m rfl HO.out rfl (by omega) (by omega) HB.out.size ?_; intro v3 w3 hown3 hb3; have HO3 := Lib.hid hown3; have HB3 := Lib.hid (HB.out.trans hb3); clear hown3 hb3)
          go_roundw
          case rel => exact ⟨j + 1, by omega, by go_num, by rw [HP.out]; exact HO3, HB3⟩
          case measure => simp [intOf]; omega
      · obtain rfl : j = 64 := by omega
        go_wp2
        go_ret
        have e : blk k m = pre K m 64 := by unfold blk; rw [HKE.out]
        rw [e]
        exact ⟨_, rfl, own_low HO.out HB1.out.size, HB1.out.trans (HB.out.mono HB1.out.size)⟩
  · go_enter Tryd.func91, Tryd.ntmps91
    have hky : ky k = k := by unfold ky; rw [if_neg (by rw [HL.out]; exact hb)]
    have HR1 : Hid (Row .u8 w w.heap.size A n (ky k)) := by rw [hky]; exact H.out
    clear hky
    obtain ⟨K, hK⟩ : ∃ K, ky k = K := ⟨_, rfl⟩
    have HKB : Hid (∀ x ∈ K, 0 ≤ x ∧ x ≤ 255) := by rw [← hK]; exact ky_byt HK.out
    have hKL : n ≤ 64 := by
      have h1 := HR1.out.len
      have h2 := ky_len k
      omega
    rw [hK] at HR1
    have HKE := Lib.hid hK
    clear hK
    have HO0 : Hid (w.ownsRow w.heap.size 5 1 (.slice none 0 0) 0 ((pre K m 0).map (Value.int .u8))) := World.ownsRow_nil _ _ _ _
    have HB0 : Hid (Below w.heap.size w w) := Below.refl _ _
    go_wp2_with fail
    go_loopw [5, 6] (fun v i wr => ∃ j : Nat, j ≤ 64 ∧ i = .int .i64 (j : Int) ∧ Hid (wr.ownsRow w.heap.size 5 1 v j ((pre K m j).map (Value.int .u8))) ∧ Hid (Below w.heap.size w wr)) (fun _ i _ => 64 - (intOf i).toNat)
    case atStart => exact ⟨0, Nat.zero_le _, rfl, HO0, HB0⟩
    case round =>
      obtain ⟨j, hj, rfl, HO, HB⟩ := hrel
      by_cases hlt : j < 64
      · have hx := getD_byt HKB.out j
        have hbx := xr_bits _ _ hx HM.out
        by_cases hjn : j < n
        · obtain ⟨bb, oo, rfl, hbb, kc⟩ := (HR1.out.below HB.out).cell_at hjn
          have HP : Hid (pre K m (j + 1) = pre K m j ++ [xr (K.getD j 0) m]) := rfl
          generalize xr (K.getD j 0) m = y at hbx HP
          generalize K.getD j 0 = x at kc hbx hx
          clear hx
          go_wp2_with (at_builtin; refine push_own rfl (.tmp 20) (.tmp 27) 29 rfl w.heap.size 5 i0 .u8 1 Tryd.underlying29 hi hz0 hz1 hz2 _ j (pre K m j) y rfl HO.out rfl (by omega) (by omega) HB.out.size ?_; intro v3 w3 hown3 hb3; have HO3 := Lib.hid hown3; have HB3 := Lib.hid (HB.out.trans hb3); clear hown3 hb3)
          go_roundw
          case rel => exact ⟨j + 1, by omega, by go_num, by rw [HP.out]; exact HO3, HB3⟩
          case measure => simp [intOf]; omega
        · have hz : K.getD j 0 = 0 := by
            have := HR1.out.len
            simp [List.getD, List.getElem?_eq_none (by omega : K.length ≤ j)]
          have HP : Hid (pre K m (j + 1) = pre K m j ++ [m]) := by
            show pre K m j ++ [xr (K.getD j 0) m] = _
            rw [hz, xr_zero HM.out.1]
          clear hbx hx hz
          go_wp2_with (at_builtin; refine push_own rfl (.tmp 29) (.tmp 31) 29 rfl w.heap.size 5 i0 .u8 1 Tryd.underlying29 hi hz0 hz1 hz2 _ j (pre K m j) m rfl HO.out rfl (by omega) (by omega) HB.out.size ?_; intro v3 w3 hown3 hb3; have HO3 := Lib.hid hown3; have HB3 := Lib.hid (HB.out.trans hb3); clear hown3 hb3)
          go_roundw
          case rel => exact ⟨j + 1, by omega, by go_num, by rw [HP.out]; exact HO3, HB3⟩
          case measure => simp [intOf]; omega
      · obtain rfl : j = 64 := by omega
        go_wp2
        go_ret
        have e : blk k m = pre K m 64 := by unfold blk; rw [HKE.out]
        rw [e]
        exact ⟨_, rfl, HO.out, HB.out⟩

set_option maxHeartbeats 800000 in
set_option maxRecDepth 100000 in
theorem reftag_any (A A' : Option Addr) (n c n' c' : Nat) (k b : List Int) (w : World) (h : Row .u8 w w.heap.size A n k) (h' : Row .u8 w w.heap.size A' n' b) (hnil : A = none → c = 0) (hnil' : A' = none → c' = 0) (hn : n ≤ 1099511627776) (hn' : n' ≤ 549755813888) (hk : ∀ x ∈ k, 0 ≤ x ∧ x ≤ 255) (hb : ∀ x ∈ b, 0 ≤ x ∧ x ≤ 255) :
    Calls Tryd.prog 75 #[.slice A n c, .slice A' n' c'] w fun e w' => ∃ v, e = .returned v ∧ w'.ownsRow w.heap.size 5 1 v 32 ((mac k b).map (Value.int .u8)) ∧ Below w.heap.size w w' := by
  obtain ⟨i0, hi, hz0, hz1, hz2⟩ := parts_of info8
  have H := Lib.hid h
  have H' := Lib.hid h'
  have HK := Lib.hid hk
  have HB := Lib.hid hb
  have HN := Lib.hid hnil
  have HN' := Lib.hid hnil'
  clear h h' hk hb hnil hnil'
  go_enter Tryd.func75, Tryd.ntmps75
  go_wp2_with fail
  refine (refblock_any A n c k 54 w H.out HN.out hn HK.out (by omega)).mono ?_
  rintro e1 w1 ⟨v1, rfl, hown1, hb1⟩
  have HO1 := Lib.hid hown1
  have HB1 := Lib.hid hb1
  clear hown1 hb1
  go_wp2_with (at_builtin; refine cat_own rfl (.tmp 7) (.tmp 8) 29 rfl w.heap.size 5 i0 .u8 1 Tryd.underlying29 hi hz0 hz1 hz2 _ 64 (blk k 54) rfl HO1.out w.heap.size A' n' c' b rfl HN'.out (H'.out.below HB1.out) (by omega) (by omega) HB1.out.size ?_; intro v2 w2 hown2 hb2; have HO2 := Lib.hid hown2; have HB2 := Lib.hid (HB1.out.trans hb2); clear hown2 hb2)
  obtain ⟨A2, c2, rfl, -, hnil2⟩ := own_slice HO2.out
  have HN2 := Lib.hid hnil2
  have HIN : Hid (∀ x ∈ blk k 54 ++ b, 0 ≤ x ∧ x ≤ 255) := fun x hx => by
    rcases List.mem_append.1 hx with hx | hx
    · exact blk_byt HK.out (by omega) x hx
    · exact HB.out x hx
  clear hnil2
  refine (refsum_any A2 (64 + n') c2 (blk k 54 ++ b) _ (Row.of_own HO2.out) HN2.out (by omega) HIN.out).mono ?_
  rintro e3 w3 ⟨v3, rfl, hown3, hb3⟩
  obtain ⟨A3, c3, rfl, -, hnil3⟩ := own_slice hown3
  have HO3 := Lib.hid hown3
  have HN3 := Lib.hid hnil3
  have HB3 := Lib.hid (HB2.out.trans (hb3.mono HB2.out.size))
  clear hown3 hb3 hnil3 HO1 HO2
  go_wp2_with fail
  refine (refblock_any A n c k 92 w3 ((H.out.below HB3.out).more HB3.out.size) HN.out hn HK.out (by omega)).mono ?_
  rintro e4 w4 ⟨v4, rfl, hown4, hb4⟩
  have HO4 := Lib.hid hown4
  have HR3 := Lib.hid ((Row.of_own HO3.out).below hb4)
  have HB4 := Lib.hid (HB3.out.trans (hb4.mono HB3.out.size))
  have HS4 := Lib.hid hb4.size
  clear hown4 hb4
  go_wp2_with (at_builtin; refine cat_own rfl (.tmp 12) (.tmp 13) 29 rfl w3.heap.size 5 i0 .u8 1 Tryd.underlying29 hi hz0 hz1 hz2 _ 64 (blk k 92) rfl HO4.out w3.heap.size A3 32 c3 (sum256 (blk k 54 ++ b)) rfl HN3.out HR3.out (by omega) (by omega) HS4.out ?_; intro v5 w5 hown5 hb5; have HO5 := Lib.hid hown5; have HB5 := Lib.hid (HB4.out.trans (hb5.mono HB3.out.size)); clear hown5 hb5)
  obtain ⟨A5, c5, rfl, -, hnil5⟩ := own_slice HO5.out
  have HN5 := Lib.hid hnil5
  have HOUT : Hid (∀ x ∈ blk k 92 ++ sum256 (blk k 54 ++ b), 0 ≤ x ∧ x ≤ 255) := fun x hx => by
    rcases List.mem_append.1 hx with hx | hx
    · exact blk_byt HK.out (by omega) x hx
    · exact sum256_byt _ x hx
  clear hnil5
  refine (refsum_any A5 (64 + 32) c5 (blk k 92 ++ sum256 (blk k 54 ++ b)) _ (Row.of_own HO5.out) HN5.out (by omega) HOUT.out).mono ?_
  rintro e6 w6 ⟨v6, rfl, hown6, hb6⟩
  have HO6 := Lib.hid hown6
  have HB6 := Lib.hid (HB5.out.trans (hb6.mono HB5.out.size))
  clear hown6 hb6
  go_wp2
  go_ret
  exact ⟨_, rfl, own_low HO6.out HB5.out.size, HB6.out⟩
end Go.Proofs.YtmkdbpdfonpfdaaDoor.Hmc

/- Words of our own on memory, over any program: a slice of the call's own whose block may be frozen beyond its capacity (what '[]byte(s)' makes), and appends onto it. -/
namespace Go.Proofs.YtmkdbpdfonpfdaaDoor
open Go.RowKit

/-- v has n elements, the cells xs, in a block from base on; up to its capacity nothing of it is frozen. -/
def Mine (w : World) (base : Nat) (e : TypeId) (v : Value) (n : Nat) (xs : List Value) : Prop :=
  xs.length = n ∧ ∃ g cap cur fr, v = .slice (some ⟨g, 0, none⟩) n cap ∧ base ≤ g ∧ w.heap[g]? = some (.cells cur e fr) ∧ (∀ j, j < cap → ¬ (fr.1 ≤ j ∧ j < fr.2)) ∧ n ≤ cap ∧ cap ≤ maxLen ∧ cur.size = cap ∧ cur.toList.take n = xs

section
variable {w w' : World} {base n : Nat} {e : TypeId} {v : Value} {xs : List Value}
theorem Mine.of_own (h : w.ownsRow base e 1 v n xs) (hv : ∃ A c, v = .slice (some A) n c) : Mine w base e v n xs := by
  obtain ⟨A, c, rfl⟩ := hv
  rcases h.2 with ⟨h0, _⟩ | ⟨g, cap, cur, h1, h2, h3, h4, h5, h6, h7⟩
  · cases h0
  · refine ⟨by simpa using h.1, g, cap, cur, (0, 0), h1, h2, h3, fun j _ hh => by omega, h4, h5, by simpa using h6, by simpa using h7⟩
theorem Mine.slice (h : Mine w base e v n xs) : ∃ g c, v = .slice (some ⟨g, 0, none⟩) n c ∧ base ≤ g ∧ n ≤ c := by
  obtain ⟨_, g, cap, cur, fr, h1, h2, _, _, h5, _⟩ := h
  exact ⟨g, cap, h1, h2, h5⟩
theorem Mine.lt {g c : Nat} (h : Mine w base e (.slice (some ⟨g, 0, none⟩) n c) n xs) : g < w.heap.size := by
  obtain ⟨_, g', cap, cur, fr, h1, h2, h3, _⟩ := h
  injection h1 with h1
  injection h1 with h1
  injection h1 with h1
  subst h1
  exact (Array.getElem?_eq_some_iff.1 h3).1
theorem Mine.below (h : Mine w base e v n xs) (hb : Below w.heap.size w w') : Mine w' base e v n xs := by
  obtain ⟨h0, g, cap, cur, fr, h1, h2, h3, h4⟩ := h
  exact ⟨h0, g, cap, cur, fr, h1, h2, (hb.block g (Array.getElem?_eq_some_iff.1 h3).1).trans h3, h4⟩
theorem Mine.row {k : IntKind} {A : Option Addr} {c : Nat} {ys : List Int} (h : Mine w base e (.slice A n c) n (ys.map (Value.int k))) : Row k w w.heap.size A n ys := by
  obtain ⟨h0, g, cap, cur, fr, h1, h2, h3, h4, h5, h6, h7, h8⟩ := h
  injection h1 with h1
  subst h1
  have hl : ys.length = n := by simpa using h0
  refine ⟨hl, fun hn => ⟨g, 0, rfl, (Array.getElem?_eq_some_iff.1 h3).1, fun j hj => ?_⟩⟩
  rw [Nat.zero_add, cell_of_row w g j cur e fr h3]
  have h9 : (ys.map (Value.int k))[j]? = some (.int k (ys.getD j 0)) := by
    simp [List.getD, List.getElem?_eq_getElem (show j < ys.length by omega)]
  rw [← h8, List.getElem?_take_of_lt hj] at h9
  simpa using h9
end

theorem setCells_row {t : TypeId} {fr : Nat × Nat} (b : Nat) : ∀ (vs : List Value) (o : Nat) (cur : List Value) (w : World), w.heap[b]? = some (.cells cur.toArray t fr) → o + vs.length ≤ cur.length →
    (w.setCells b o vs).heap[b]? = some (.cells (cur.take o ++ (vs ++ cur.drop (o + vs.length))).toArray t fr)
  | [], o, cur, w, h, _ => by simpa [World.setCells] using h
  | v :: r, o, cur, w, h, hl => by
    rw [List.length_cons] at hl
    have h1 : (w.setCell ⟨b, o, none⟩ v).heap[b]? = some (.cells (cur.set o v).toArray t fr) := by
      rw [setCell_eq_setRow w b o cur.toArray t fr v h, setRow_heap w b _ _ t fr h, List.setIfInBounds_toArray]
    rw [World.setCells, setCells_row b r (o + 1) (cur.set o v) _ h1 (by rw [List.length_set]; omega)]
    congr 3
    rw [List.length_cons, List.take_succ_eq_append_getElem (by rw [List.length_set]; omega), List.take_set_of_le (Nat.le_refl _), List.drop_set_of_lt (by omega)]
    simp [show o + 1 + r.length = o + (r.length + 1) by omega]
theorem setCells_rest (b : Nat) : ∀ (vs : List Value) (o : Nat) (w : World), (w.setCells b o vs).os = w.os ∧ (w.setCells b o vs).tape = w.tape ∧ (w.setCells b o vs).output = w.output ∧ (w.setCells b o vs).heap.size = w.heap.size ∧ ∀ k, k ≠ b → (w.setCells b o vs).heap[k]? = w.heap[k]?
  | [], _, _ => ⟨rfl, rfl, rfl, rfl, fun _ _ => rfl⟩
  | v :: r, o, w => by
    obtain ⟨h1, h2, h3, h4, h5⟩ := setCells_rest b r (o + 1) (w.setCell ⟨b, o, none⟩ v)
    rw [World.setCells]
    exact ⟨h1, h2, h3, h4.trans (by simp [World.setCell]), fun k hk => (h5 k hk).trans (heap_setCell_other _ _ _ _ hk)⟩
theorem below_setCells {B b : Nat} (w : World) (o : Nat) (vs : List Value) (hb : B ≤ b) : Below B w (w.setCells b o vs) := by
  obtain ⟨h1, h2, h3, h4, h5⟩ := setCells_rest b vs o w
  exact ⟨h1, h2, h3, by omega, fun k hk => h5 k (by omega)⟩

theorem take_two {α : Type} (a b c : List α) (n m : Nat) (ha : a.length = n) (hb : b.length = m) : (a ++ (b ++ c)).take (n + m) = a ++ b := by
  rw [← List.append_assoc]
  exact List.take_left' (by simp; omega)
/-- 'append(out, ys...)' onto such a slice; ys reads as a row, nil let in. -/
theorem cat_min {P : Program} {ops : Array Oper} {rest : List Oper} {o : Oper} {a : Act} {Q : Exit → Act → World → Prop} {w : World} (hgd : o.guard = none) (s x : Operand) (t : TypeId)
    (ho : o.op = .call { callee := .builtin .append, args := #[s, x], argTypes := #[t, t] })
    (base : Nat) (e : TypeId) (i : TypeInfo) (k : IntKind) (bytes : Nat) (ht : P.underlying t = some (.slice e)) (hi : P.info? e = some i) (hz : i.zero = some (.int k 0)) (hsize : i.size = 1) (hby : i.bytes = bytes)
    (v : Value) (n : Nat) (xs : List Int) (hs : a.eval s = v) (hown : Mine w base e v n (xs.map (Value.int k))) (B : Nat) (A : Option Addr) (m c : Nat) (ys : List Int) (hx : a.eval x = .slice A m c) (hnil : A = none → c = 0) (hr : Row k w B A m ys)
    (hn : n + m ≤ 4398046511104) (hb8 : bytes ≤ 8) (hbase : base ≤ w.heap.size)
    (h : ∀ v' w', Mine w' base e v' (n + m) ((xs ++ ys).map (Value.int k)) → Below base w w' → wpList P ops Q rest (a.put o.dst v') w') :
    wpList P ops Q (o :: rest) a w := by
  subst hby
  have hmine := hown
  obtain ⟨h0, g, cap, cur, fr, rfl, h2, h3, h4, h5, h6, h7, h8⟩ := hown
  have hxl : xs.length = n := by simpa using h0
  rcases A with _ | ad
  · have hm : m = 0 := by
      rcases Nat.eq_zero_or_pos m with h0 | h0
      · exact h0
      · obtain ⟨_, _, h1, _⟩ := hr.2 h0
        cases h1
    subst hm
    have hy : ys = [] := List.eq_nil_of_length_eq_zero hr.1
    subst hy
    rw [hnil rfl] at hx
    have hrun : (Builtin.append_ #[t, t] o.type #[.slice (some ⟨g, 0, none⟩) n cap, .slice none 0 0]).run P w = .ok (.slice (some ⟨g, 0, none⟩) n cap) w := by
      have hst : (storeCells ((⟨g, 0, none⟩ : Addr).add (n * i.size)) ([] : List Value)).run P w = .ok () w := rfl
      simp [Builtin.append_, run_underlying ht, sizeOf, typeInfo, hi, Builtin.lenOf, Builtin.firstCells, h5, hst]
    refine wpList_plain hgd fun K hK => ?_
    unfold Oper.wp execOp
    simp only [ho, resolve, invoke, builtin, Sem.run_bind, Sem.run_pure, Result.andThen_ok, List.map_toArray, List.map_cons, List.map_nil, hs, hx, hrun]
    exact hK _ _ (h _ w (by simpa using hmine) (Below.refl _ _))
  · have hnews : ∀ j u, (ys.map (Value.int k))[j]? = some u → w.cell? (ad.add j) = some u := by
      intro j u hj
      have hjl : j < ys.length := by
        have := (List.getElem?_eq_some_iff.1 hj).1
        simpa using this
      have hl := hr.1
      obtain ⟨b, o, he, _, hc⟩ := hr.cell_at (show j < m by omega)
      injection he with he
      subst he
      have hadd : (⟨b, o, none⟩ : Addr).add j = ⟨b, o + j, none⟩ := by unfold Addr.add; split <;> simp_all
      rw [hadd, hc]
      simp only [List.getElem?_map, List.getElem?_eq_getElem hjl, Option.map_some, Option.some.injEq] at hj
      subst hj
      simp [List.getD, hjl]
    have h1 : ∀ u ∈ ys.map (Value.int k), u.oneCell' = true := by
      intro u hu
      obtain ⟨y, _, rfl⟩ := List.mem_map.1 hu
      rfl
    have hl : (ys.map (Value.int k)).length = m * i.size := by rw [hsize]; simp [hr.1]
    have hl1 : (ys.map (Value.int k)).length = m := by simp [hr.1]
    have h63 : n + m ≤ maxLen := by unfold maxLen; omega
    have hbb : (n + m) * i.bytes ≤ 140737488355328 := by have := Nat.mul_le_mul hn hb8; omega
    have hsmall : n + m ≤ 9223372036854775807 := by simp only [maxLen] at h63; omega
    have hcell : ∀ j, w.cell? ⟨g, j, none⟩ = cur[j]? := fun j => cell_of_row w g j cur e fr h3
    by_cases hroom : n + m ≤ cap
    · have hrun := run_append_room_cells (P := P) w t o.type e i ht hi g 0 n cap ad m c _ hl hnews h1 hroom
        (fun j hj => by rw [hsize, Nat.zero_add, Nat.mul_one, hcell, Array.getElem?_eq_getElem (by omega)]; rfl)
        (fun j hj => by
          rw [hsize, Nat.zero_add, Nat.mul_one]
          have := h4 (n + j) (by omega)
          simp only [World.frozen?, h3]
          simpa using this)
      rw [hsize, Nat.zero_add, Nat.mul_one] at hrun
      have hblk := setCells_row g (ys.map (Value.int k)) n cur.toList w (by simpa using h3) (by rw [hl1]; simp; omega)
      refine wpList_plain hgd fun K hK => ?_
      unfold Oper.wp execOp
      simp only [ho, resolve, invoke, builtin, Sem.run_bind, Sem.run_pure, Result.andThen_ok, List.map_toArray, List.map_cons, List.map_nil, hs, hx, hrun]
      refine hK _ _ (h _ _ ⟨by simp [hxl, hr.1], g, cap, _, fr, rfl, h2, hblk, h4, hroom, h6, ?_, ?_⟩ (below_setCells w n _ h2))
      · simp [hr.1, h7]; omega
      · rw [List.map_append, h8]
        exact take_two _ _ _ _ _ h0 hl1
    · have hrun := run_append_grow (P := P) w t o.type e i (.int k 0) ht hi hz ⟨g, 0, none⟩ n cap (xs.map (Value.int k)) (by rw [hsize]; simpa using h0)
        (fun j u hj => by
          have hadd : (⟨g, 0, none⟩ : Addr).add j = ⟨g, j, none⟩ := by unfold Addr.add; split <;> simp_all
          have hjn : j < n := by have := (List.getElem?_eq_some_iff.1 hj).1; omega
          rw [hadd, hcell]
          rw [← h8, List.getElem?_take_of_lt hjn] at hj
          simpa using hj) ad m c _ hl hnews (by omega) (by omega) (growslice_fits (by omega) hbb)
      refine wpList_plain hgd fun K hK => ?_
      unfold Oper.wp execOp
      simp only [ho, resolve, invoke, builtin, Sem.run_bind, Sem.run_pure, Result.andThen_ok, List.map_toArray, List.map_cons, List.map_nil, hs, hx, hrun]
      have hge := grownCap_ge w (n + m) cap e
      refine hK _ _ (h _ _ ⟨by simp [hxl, hr.1], w.heap.size, _, _, (0, 0), rfl, hbase, heap_alloc_new w.drew _, fun j _ hh => by omega, hge, grownCap_le_maxLen w (n + m) cap e h63, ?_, ?_⟩ ((Below.refl base w).drew.alloc hbase _))
      · have hzc : (Value.int k 0).cells.size = 1 := rfl
        simp only [Array.size_append, List.size_toArray, size_zeroCells, hzc, List.length_map, hxl, hr.1]
        omega
      · rw [List.map_append]
        simp only [Array.toList_append, List.append_assoc]
        exact take_two _ _ _ _ _ h0 hl1

/-- '[]byte(s)': what it makes. -/
theorem mine_bytes (w : World) (e : TypeId) (s : ByteArray) (hs : s.size ≤ 4398046511104) :
    Mine (w.drew.alloc (.cells (bytesRow s (grownCap w s.size 0 e)) e ((bytesRow s (grownCap w s.size 0 e)).size, (bytesRow s (grownCap w s.size 0 e)).size + 1))) w.heap.size e (.slice (some ⟨w.heap.size, 0, none⟩) s.size (grownCap w s.size 0 e)) s.size ((s.data.toList.map fun x => (x.toNat : Int)).map (Value.int .u8)) := by
  have hge := grownCap_ge w s.size 0 e
  have hsz : (bytesRow s (grownCap w s.size 0 e)).size = grownCap w s.size 0 e := by
    have : s.data.size = s.size := rfl
    unfold bytesRow
    simp only [Array.size_append, Array.size_map, Array.size_replicate, this]
    omega
  refine ⟨by simp, w.heap.size, _, _, _, rfl, Nat.le_refl _, heap_alloc_new w.drew _, fun j hj hh => ?_, hge, grownCap_le_maxLen w s.size 0 e (by unfold maxLen; omega), hsz, ?_⟩
  · rw [hsz] at hh
    simp at hh
    omega
  · unfold bytesRow
    have : s.data.toList.length = s.size := by simp
    simp [this]
end Go.Proofs.YtmkdbpdfonpfdaaDoor

/- Layer 8 (hmac): the reference's Derive, as a contract. -/
namespace Go.Proofs.YtmkdbpdfonpfdaaDoor.Hmc
open Go.RowKit Sha

set_option maxHeartbeats 800000 in
set_option maxRecDepth 100000 in
theorem refderive_any (A A' : Option Addr) (n c n' c' : Nat) (k b : List Int) (s : ByteArray) (w : World) (h : Row .u8 w w.heap.size A n k) (h' : Row .u8 w w.heap.size A' n' b) (hnil : A = none → c = 0) (hnil' : A' = none → c' = 0) (hn : n ≤ 1099511627776) (hn' : n' ≤ 137438953472) (hs : s.size ≤ 137438953472) (hk : ∀ x ∈ k, 0 ≤ x ∧ x ≤ 255) (hb : ∀ x ∈ b, 0 ≤ x ∧ x ≤ 255) :
    Calls Tryd.prog 59 #[.slice A n c, .string s, .slice A' n' c'] w fun e w' => ∃ v, e = .returned v ∧ w'.ownsRow w.heap.size 5 1 v 32 ((mac k (sby s ++ 0 :: b)).map (Value.int .u8)) ∧ Below w.heap.size w w' := by
  obtain ⟨i0, hi, hz0, hz1, hz2⟩ := parts_of info8
  have H := Lib.hid h
  have H' := Lib.hid h'
  have HK := Lib.hid hk
  have HB := Lib.hid hb
  have HN := Lib.hid hnil
  have HN' := Lib.hid hnil'
  clear h h' hk hb hnil hnil'
  have kc := fun (w : World) => run_bytes_of_string (P := Tryd.prog) w 9 29 5 s Tryd.underlying9 Tryd.underlying29 Tryd.underlying5
  have hm0 := mine_bytes w 5 s (by omega)
  have hb0 := (Below.refl w.heap.size w).drew.alloc (Nat.le_refl _) (.cells (bytesRow s (grownCap w s.size 0 5)) 5 ((bytesRow s (grownCap w s.size 0 5)).size, (bytesRow s (grownCap w s.size 0 5)).size + 1))
  obtain ⟨cap, hcap⟩ : ∃ cap, grownCap w s.size 0 5 = cap := ⟨_, rfl⟩
  have kc0 := kc w
  rw [hcap] at hm0 hb0 kc0
  obtain ⟨O, hO⟩ : ∃ O, Obj.cells (bytesRow s cap) 5 ((bytesRow s cap).size, (bytesRow s cap).size + 1) = O := ⟨_, rfl⟩
  rw [hO] at hm0 hb0 kc0
  have HM1 : Hid (Mine ((w.alloc O).alloc (.cells #[.int .u8 0] 5)).drew w.heap.size 5 (.slice (some ⟨w.heap.size, 0, none⟩) s.size cap) s.size ((sby s).map (Value.int .u8))) := hm0.below ((Below.refl _ _).alloc (Nat.le_refl _) _)
  have HB1 : Hid (Below w.heap.size w ((w.alloc O).alloc (.cells #[.int .u8 0] 5)).drew) := hb0.alloc (by simp) _
  have HR1 : Hid (Row .u8 ((w.alloc O).alloc (.cells #[.int .u8 0] 5)).drew (w.heap.size + 1 + 1) (some ⟨w.heap.size + 1, 0, none⟩) 1 [0]) := by
    refine ⟨rfl, fun _ => ⟨w.heap.size + 1, 0, rfl, by omega, fun j hj => ?_⟩⟩
    obtain rfl : j = 0 := by omega
    exact cell_of_blk (w := ((w.alloc O).alloc (.cells #[.int .u8 0] 5)).drew) (heap_alloc2_new w O _) rfl
  clear kc hm0 hb0 hcap hO
  go_enter Tryd.func59, Tryd.ntmps59
  go_wp2_with (at_builtin; first
    | (refine cat_min rfl (.tmp 10) (.tmp 11) 29 rfl w.heap.size 5 i0 .u8 1 Tryd.underlying29 hi hz0 hz1 hz2 _ s.size (sby s) rfl HM1.out (w.heap.size + 1 + 1) (some ⟨w.heap.size + 1, 0, none⟩) 1 1 [0] rfl (fun h => by cases h) HR1.out (by omega) (by omega) HB1.out.size ?_; intro v2 w2 hown2 hb2; have HM2 := Lib.hid hown2; have HB2 := Lib.hid (HB1.out.trans hb2); clear hown2 hb2)
    | (refine cat_min rfl (.tmp 14) (.tmp 15) 29 rfl w.heap.size 5 i0 .u8 1 Tryd.underlying29 hi hz0 hz1 hz2 _ (s.size + 1) (sby s ++ [0]) rfl HM2.out w.heap.size A' n' c' b rfl HN'.out (H'.out.below HB2.out) (by omega) (by omega) HB2.out.size ?_; intro v3 w3 hown3 hb3; have HM3 := Lib.hid hown3; have HB3 := Lib.hid (HB2.out.trans hb3); clear hown3 hb3))
  obtain ⟨g3, c3, rfl, -, -⟩ := HM3.out.slice
  have hcat : sby s ++ [0] ++ b = sby s ++ 0 :: b := by simp
  rw [hcat] at HM3
  have HBY : Hid (∀ x ∈ sby s ++ 0 :: b, 0 ≤ x ∧ x ≤ 255) := fun x hx => by
    rcases List.mem_append.1 hx with hx | hx
    · unfold sby at hx
      obtain ⟨y, _, rfl⟩ := List.mem_map.1 hx
      have := y.toNat_lt
      omega
    · rcases List.mem_cons.1 hx with rfl | hx
      · omega
      · exact HB.out x hx
  clear hcat HM2
  refine (reftag_any A (some ⟨g3, 0, none⟩) n c (s.size + 1 + n') c3 k (sby s ++ 0 :: b) _ ((H.out.below HB3.out).more HB3.out.size) HM3.out.row HN.out (fun h => by cases h) hn (by omega) HK.out HBY.out).mono ?_
  rintro e4 w4 ⟨v4, rfl, hown4, hb4⟩
  have HO4 := Lib.hid hown4
  have HB4 := Lib.hid (HB3.out.trans (hb4.mono HB3.out.size))
  clear hown4 hb4
  go_wp2
  go_ret
  exact ⟨_, rfl, own_low HO4.out HB3.out.size, HB4.out⟩
end Go.Proofs.YtmkdbpdfonpfdaaDoor.Hmc

/- Layer 10 (token): the reference's May, Fields, Tag, as contracts. -/
namespace Go.Proofs.YtmkdbpdfonpfdaaDoor.Tok
open Go.RowKit Var Fld Frm Sha Hmc Rg

def fr (n lo hi : Int) : Bool := decide (lo ≤ n) && decide (n ≤ hi)
theorem fr_yes {n lo hi : Int} (h : fr n lo hi = true) : lo ≤ n ∧ n ≤ hi := by unfold fr at h; simpa using h
theorem fr_no {n lo hi : Int} (h : fr n lo hi = false) : ¬ (lo ≤ n ∧ n ≤ hi) := by unfold fr at h; simpa using h

set_option maxRecDepth 100000 in
theorem from_any (n lo hi : Int) (w : World) : Calls Tryd.prog 34 #[.int .i64 n, .int .i64 lo, .int .i64 hi] w fun x w' => x = .returned (.bool (fr n lo hi)) ∧ w' = w := by
  unfold fr
  by_cases h0 : lo ≤ n
  · have d0 : decide (lo ≤ n) = true := decide_eq_true h0
    rw [d0]
    go_enter Tryd.func34, Tryd.ntmps34
    go_wp2
    go_ret
    exact ⟨rfl, rfl⟩
  · have d0 : decide (lo ≤ n) = false := decide_eq_false h0
    rw [d0]
    go_enter Tryd.func34, Tryd.ntmps34
    go_wp2
    go_ret
    exact ⟨rfl, rfl⟩

set_option maxHeartbeats 1600000 in
set_option maxRecDepth 100000 in
theorem refmay_any (t : T) (w : World) : Calls Tryd.prog 13 #[t.val] w fun x w' => x = .returned (.bool (decide t.may)) ∧ Below w.heap.size w w' := by
  have hb : Below w.heap.size w (w.alloc (.cells t.cells 26)) := (Below.refl _ _).alloc (Nat.le_refl _) _
  have HB := Lib.hid hb
  have k0 : (w.alloc (.cells t.cells 26)).cell? ⟨w.heap.size, 0, none⟩ = some (.int .i64 t.tr) := cell_of_blk (heap_alloc_new w _) rfl
  have k1 : (w.alloc (.cells t.cells 26)).cell? ⟨w.heap.size, 1, none⟩ = some (.int .i64 t.ac) := cell_of_blk (heap_alloc_new w _) rfl
  have k2 : (w.alloc (.cells t.cells 26)).cell? ⟨w.heap.size, 2, none⟩ = some (.int .i64 t.st) := cell_of_blk (heap_alloc_new w _) rfl
  have k3 : (w.alloc (.cells t.cells 26)).cell? ⟨w.heap.size, 3, none⟩ = some (.int .i64 t.is) := cell_of_blk (heap_alloc_new w _) rfl
  have k4 : (w.alloc (.cells t.cells 26)).cell? ⟨w.heap.size, 4, none⟩ = some (.int .i64 t.un) := cell_of_blk (heap_alloc_new w _) rfl
  have k5 : (w.alloc (.cells t.cells 26)).cell? ⟨w.heap.size, 5, none⟩ = some (.int .i64 t.ep) := cell_of_blk (heap_alloc_new w _) rfl
  have arm := fun n lo hi w => Lib.hid (from_any n lo hi w)
  unfold T.val
  have hm : t.may ↔ (fr t.tr 1 2147483648 = true ∧ fr t.ac 1 2147483648 = true ∧ fr t.st 0 4095 = true ∧ fr t.is 0 1099511627776 = true ∧ fr t.un 0 1099511627776 = true ∧ t.is ≤ t.un ∧ fr t.ep 1 1048576 = true) := by
    unfold T.may fr
    simp only [Bool.and_eq_true, decide_eq_true_eq]
  have HM := Lib.hid hm
  have eC : t.cells = #[.int .i64 t.tr, .int .i64 t.ac, .int .i64 t.st, .int .i64 t.is, .int .i64 t.un, .int .i64 t.ep] := rfl
  have HR : Hid (∃ b : Bool, b = decide t.may) := ⟨_, rfl⟩
  obtain ⟨b, hb2⟩ := HR.out
  rw [← hb2]
  have HB2 := Lib.hid hb2
  rw [eC] at k0 k1 k2 k3 k4 k5 HB ⊢
  clear hb hm hb2 HR eC
  cases htr : fr t.tr 1 2147483648
  · have Htr : Hid (fr t.tr 1 2147483648 = false) := htr
    clear htr
    go_enter Tryd.func13, Tryd.ntmps13
    go_wp2_with (go_at_call 34; first
      | ((with_reducible refine (arm t.tr 1 2147483648 _).out.mono ?_); rintro etr wtr ⟨rfl, rfl⟩; rw [Htr.out]))
    go_ret
    exact ⟨congrArg (fun b => Ending.returned (.bool b)) (HB2.out.trans (decide_eq_false (fun h => by have h1 := (HM.out.1 h).1; rw [Htr.out] at h1; cases h1))).symm, HB.out⟩
  have Htr : Hid (fr t.tr 1 2147483648 = true) := htr
  clear htr
  cases hac : fr t.ac 1 2147483648
  · have Hac : Hid (fr t.ac 1 2147483648 = false) := hac
    clear hac
    go_enter Tryd.func13, Tryd.ntmps13
    go_wp2_with (go_at_call 34; first
      | ((with_reducible refine (arm t.tr 1 2147483648 _).out.mono ?_); rintro etr wtr ⟨rfl, rfl⟩; rw [Htr.out])
      | ((with_reducible refine (arm t.ac 1 2147483648 _).out.mono ?_); rintro eac wac ⟨rfl, rfl⟩; rw [Hac.out]))
    go_ret
    exact ⟨congrArg (fun b => Ending.returned (.bool b)) (HB2.out.trans (decide_eq_false (fun h => by have h1 := (HM.out.1 h).2.1; rw [Hac.out] at h1; cases h1))).symm, HB.out⟩
  have Hac : Hid (fr t.ac 1 2147483648 = true) := hac
  clear hac
  cases hst : fr t.st 0 4095
  · have Hst : Hid (fr t.st 0 4095 = false) := hst
    clear hst
    go_enter Tryd.func13, Tryd.ntmps13
    go_wp2_with (go_at_call 34; first
      | ((with_reducible refine (arm t.tr 1 2147483648 _).out.mono ?_); rintro etr wtr ⟨rfl, rfl⟩; rw [Htr.out])
      | ((with_reducible refine (arm t.ac 1 2147483648 _).out.mono ?_); rintro eac wac ⟨rfl, rfl⟩; rw [Hac.out])
      | ((with_reducible refine (arm t.st 0 4095 _).out.mono ?_); rintro est wst ⟨rfl, rfl⟩; rw [Hst.out]))
    go_ret
    exact ⟨congrArg (fun b => Ending.returned (.bool b)) (HB2.out.trans (decide_eq_false (fun h => by have h1 := (HM.out.1 h).2.2.1; rw [Hst.out] at h1; cases h1))).symm, HB.out⟩
  have Hst : Hid (fr t.st 0 4095 = true) := hst
  clear hst
  cases his : fr t.is 0 1099511627776
  · have His : Hid (fr t.is 0 1099511627776 = false) := his
    clear his
    go_enter Tryd.func13, Tryd.ntmps13
    go_wp2_with (go_at_call 34; first
      | ((with_reducible refine (arm t.tr 1 2147483648 _).out.mono ?_); rintro etr wtr ⟨rfl, rfl⟩; rw [Htr.out])
      | ((with_reducible refine (arm t.ac 1 2147483648 _).out.mono ?_); rintro eac wac ⟨rfl, rfl⟩; rw [Hac.out])
      | ((with_reducible refine (arm t.st 0 4095 _).out.mono ?_); rintro est wst ⟨rfl, rfl⟩; rw [Hst.out])
      | ((with_reducible refine (arm t.is 0 1099511627776 _).out.mono ?_); rintro eis wis ⟨rfl, rfl⟩; rw [His.out]))
    go_ret
    exact ⟨congrArg (fun b => Ending.returned (.bool b)) (HB2.out.trans (decide_eq_false (fun h => by have h1 := (HM.out.1 h).2.2.2.1; rw [His.out] at h1; cases h1))).symm, HB.out⟩
  have His : Hid (fr t.is 0 1099511627776 = true) := his
  clear his
  cases hun : fr t.un 0 1099511627776
  · have Hun : Hid (fr t.un 0 1099511627776 = false) := hun
    clear hun
    go_enter Tryd.func13, Tryd.ntmps13
    go_wp2_with (go_at_call 34; first
      | ((with_reducible refine (arm t.tr 1 2147483648 _).out.mono ?_); rintro etr wtr ⟨rfl, rfl⟩; rw [Htr.out])
      | ((with_reducible refine (arm t.ac 1 2147483648 _).out.mono ?_); rintro eac wac ⟨rfl, rfl⟩; rw [Hac.out])
      | ((with_reducible refine (arm t.st 0 4095 _).out.mono ?_); rintro est wst ⟨rfl, rfl⟩; rw [Hst.out])
      | ((with_reducible refine (arm t.is 0 1099511627776 _).out.mono ?_); rintro eis wis ⟨rfl, rfl⟩; rw [His.out])
      | ((with_reducible refine (arm t.un 0 1099511627776 _).out.mono ?_); rintro eun wun ⟨rfl, rfl⟩; rw [Hun.out]))
    go_ret
    exact ⟨congrArg (fun b => Ending.returned (.bool b)) (HB2.out.trans (decide_eq_false (fun h => by have h1 := (HM.out.1 h).2.2.2.2.1; rw [Hun.out] at h1; cases h1))).symm, HB.out⟩
  have Hun : Hid (fr t.un 0 1099511627776 = true) := hun
  clear hun
  by_cases hle : t.is ≤ t.un
  rotate_left
  · have dle : decide (t.is ≤ t.un) = false := decide_eq_false hle
    go_enter Tryd.func13, Tryd.ntmps13
    go_wp2_with (go_at_call 34; first
      | ((with_reducible refine (arm t.tr 1 2147483648 _).out.mono ?_); rintro etr wtr ⟨rfl, rfl⟩; rw [Htr.out])
      | ((with_reducible refine (arm t.ac 1 2147483648 _).out.mono ?_); rintro eac wac ⟨rfl, rfl⟩; rw [Hac.out])
      | ((with_reducible refine (arm t.st 0 4095 _).out.mono ?_); rintro est wst ⟨rfl, rfl⟩; rw [Hst.out])
      | ((with_reducible refine (arm t.is 0 1099511627776 _).out.mono ?_); rintro eis wis ⟨rfl, rfl⟩; rw [His.out])
      | ((with_reducible refine (arm t.un 0 1099511627776 _).out.mono ?_); rintro eun wun ⟨rfl, rfl⟩; rw [Hun.out]))
    go_ret
    exact ⟨congrArg (fun b => Ending.returned (.bool b)) (HB2.out.trans (decide_eq_false (fun h => by have h1 := (HM.out.1 h).2.2.2.2.2.1; omega))).symm, HB.out⟩
  have dle : decide (t.is ≤ t.un) = true := decide_eq_true hle
  cases hep : fr t.ep 1 1048576
  · have Hep : Hid (fr t.ep 1 1048576 = false) := hep
    clear hep
    go_enter Tryd.func13, Tryd.ntmps13
    go_wp2_with (go_at_call 34; first
      | ((with_reducible refine (arm t.tr 1 2147483648 _).out.mono ?_); rintro etr wtr ⟨rfl, rfl⟩; rw [Htr.out])
      | ((with_reducible refine (arm t.ac 1 2147483648 _).out.mono ?_); rintro eac wac ⟨rfl, rfl⟩; rw [Hac.out])
      | ((with_reducible refine (arm t.st 0 4095 _).out.mono ?_); rintro est wst ⟨rfl, rfl⟩; rw [Hst.out])
      | ((with_reducible refine (arm t.is 0 1099511627776 _).out.mono ?_); rintro eis wis ⟨rfl, rfl⟩; rw [His.out])
      | ((with_reducible refine (arm t.un 0 1099511627776 _).out.mono ?_); rintro eun wun ⟨rfl, rfl⟩; rw [Hun.out])
      | ((with_reducible refine (arm t.ep 1 1048576 _).out.mono ?_); rintro eep wep ⟨rfl, rfl⟩; rw [Hep.out]))
    go_ret
    exact ⟨congrArg (fun b => Ending.returned (.bool b)) (HB2.out.trans (decide_eq_false (fun h => by have h1 := (HM.out.1 h).2.2.2.2.2.2; rw [Hep.out] at h1; cases h1))).symm, HB.out⟩
  have Hep : Hid (fr t.ep 1 1048576 = true) := hep
  clear hep
  go_enter Tryd.func13, Tryd.ntmps13
  go_wp2_with (go_at_call 34; first
    | ((with_reducible refine (arm t.tr 1 2147483648 _).out.mono ?_); rintro etr wtr ⟨rfl, rfl⟩; rw [Htr.out])
    | ((with_reducible refine (arm t.ac 1 2147483648 _).out.mono ?_); rintro eac wac ⟨rfl, rfl⟩; rw [Hac.out])
    | ((with_reducible refine (arm t.st 0 4095 _).out.mono ?_); rintro est wst ⟨rfl, rfl⟩; rw [Hst.out])
    | ((with_reducible refine (arm t.is 0 1099511627776 _).out.mono ?_); rintro eis wis ⟨rfl, rfl⟩; rw [His.out])
    | ((with_reducible refine (arm t.un 0 1099511627776 _).out.mono ?_); rintro eun wun ⟨rfl, rfl⟩; rw [Hun.out])
    | ((with_reducible refine (arm t.ep 1 1048576 _).out.mono ?_); rintro eep wep ⟨rfl, rfl⟩; rw [Hep.out]))
  go_ret
  exact ⟨congrArg (fun b => Ending.returned (.bool b)) (HB2.out.trans (decide_eq_true (HM.out.2 ⟨Htr.out, Hac.out, Hst.out, His.out, Hun.out, hle, Hep.out⟩))).symm, HB.out⟩

set_option maxHeartbeats 1600000 in
set_option maxRecDepth 100000 in
theorem reffields_any (t : T) (ht : t.ok) (w : World) : Calls Tryd.prog 15 #[t.val] w (Makes (flds t) w) := by
  obtain ⟨i0, hi, hz0, hz1, hz2⟩ := Sha.parts_of info8
  have HTO := Lib.hid ht
  have hb : Below w.heap.size w (w.alloc (.cells t.cells 26)) := (Below.refl _ _).alloc (Nat.le_refl _) _
  have HS : Hid ((w.alloc (.cells t.cells 26)).heap.size = w.heap.size + 1) := by unfold Hid; simp
  have HBK : Hid ((w.alloc (.cells t.cells 26)).heap[w.heap.size]? = some (.cells t.cells 26 (0, 0))) := heap_alloc_new w _
  have HB0 := Lib.hid hb
  unfold T.val
  have eC : t.cells = #[.int .i64 t.tr, .int .i64 t.ac, .int .i64 t.st, .int .i64 t.is, .int .i64 t.un, .int .i64 t.ep] := rfl
  obtain ⟨tr, ac, st, is, un, ep⟩ := t
  rw [eC] at HBK HB0 HS ⊢
  simp only at HBK HB0 HS ⊢
  have k0 := cell_of_blk (j := 0) HBK.out rfl
  clear ht hb eC
  go_enter Tryd.func15, Tryd.ntmps15
  go_wp2_with fail
  generalize w.alloc (.cells #[.int .i64 tr, .int .i64 ac, .int .i64 st, .int .i64 is, .int .i64 un, .int .i64 ep] 26) = y0 at *
  have HOW0 : Hid (y0.ownsRow (w.heap.size + 1) 5 1 (.slice none 0 0) 0 (([] : List Int).map (Value.int .u8))) := World.ownsRow_nil _ _ _ _
  have HBY0 : Hid (Below (w.heap.size + 1) y0 y0) := Below.refl _ _
  refine (refnumber_any tr HTO.out.tr.2 _).mono ?_
  rintro etr w0 ⟨n0, rfl, hown0, hb0⟩
  obtain ⟨A0, c0, rfl, hc0, hnil0⟩ := own_slice hown0
  have HL0 : Hid ((num tr).length ≤ 10) := num_len HTO.out.tr.2
  have HNR0 : Hid (Row .u8 w0 w0.heap.size A0 (num tr).length (num tr)) := Row.of_own hown0
  have HNN0 := Lib.hid hnil0
  have HOX0 := Lib.hid (own_below HOW0.out hb0)
  have HBX0 := Lib.hid (HBY0.out.trans (hb0.mono (Nat.le_trans (Nat.le_of_eq HS.out.symm) HBY0.out.size)))
  have HZ0 : Hid (w.heap.size + 1 ≤ w0.heap.size) := Nat.le_trans (Nat.le_of_eq HS.out.symm) HBX0.out.size
  clear hown0 hb0 hc0 hnil0
  go_wp2_with (at_builtin; refine cat_own rfl (.tmp 4) (.tmp 7) 29 rfl (w.heap.size + 1) 5 i0 .u8 1 Tryd.underlying29 hi hz0 hz1 hz2 _ 0 [] rfl HOX0.out w0.heap.size A0 (num tr).length c0 (num tr) rfl HNN0.out HNR0.out (by have h1 := HL0.out; omega) (by omega) HZ0.out ?_; intro v0 y1 ho0 hy0; have HOY0 := Lib.hid ho0; have HBY1 := Lib.hid (HBX0.out.trans hy0); have k1 := (HBY1.out.cell (p := ⟨w.heap.size, 1, none⟩) (Nat.lt_succ_self _)).trans (cell_of_blk (j := 1) HBK.out rfl); clear ho0 hy0)
  obtain ⟨X0, hX0⟩ : ∃ X, X = ([] : List Int) ++ num tr := ⟨_, rfl⟩
  have HXL0 : Hid (X0.length ≤ 10) := by unfold Hid; rw [hX0, List.length_append]; have h1 := HL0.out; simp; omega
  have HOW1 : Hid (y1.ownsRow (w.heap.size + 1) 5 1 v0 X0.length (X0.map (Value.int .u8))) := by unfold Hid; have h1 := HOY0.out; rw [← hX0] at h1; rwa [hX0, List.length_append, List.length_nil, ← hX0]
  have HX0 := Lib.hid hX0
  clear hX0 k0
  refine (refnumber_any ac HTO.out.ac.2 _).mono ?_
  rintro eac w1 ⟨n1, rfl, hown1, hb1⟩
  obtain ⟨A1, c1, rfl, hc1, hnil1⟩ := own_slice hown1
  have HL1 : Hid ((num ac).length ≤ 10) := num_len HTO.out.ac.2
  have HNR1 : Hid (Row .u8 w1 w1.heap.size A1 (num ac).length (num ac)) := Row.of_own hown1
  have HNN1 := Lib.hid hnil1
  have HOX1 := Lib.hid (own_below HOW1.out hb1)
  have HBX1 := Lib.hid (HBY1.out.trans (hb1.mono (Nat.le_trans (Nat.le_of_eq HS.out.symm) HBY1.out.size)))
  have HZ1 : Hid (w.heap.size + 1 ≤ w1.heap.size) := Nat.le_trans (Nat.le_of_eq HS.out.symm) HBX1.out.size
  clear hown1 hb1 hc1 hnil1
  go_wp2_with (at_builtin; refine cat_own rfl (.tmp 9) (.tmp 12) 29 rfl (w.heap.size + 1) 5 i0 .u8 1 Tryd.underlying29 hi hz0 hz1 hz2 _ (X0.length) X0 rfl HOX1.out w1.heap.size A1 (num ac).length c1 (num ac) rfl HNN1.out HNR1.out (by have h1 := HL1.out; have h2 := HXL0.out; omega) (by omega) HZ1.out ?_; intro v1 y2 ho1 hy1; have HOY1 := Lib.hid ho1; have HBY2 := Lib.hid (HBX1.out.trans hy1); have k2 := (HBY2.out.cell (p := ⟨w.heap.size, 2, none⟩) (Nat.lt_succ_self _)).trans (cell_of_blk (j := 2) HBK.out rfl); clear ho1 hy1)
  obtain ⟨X1, hX1⟩ : ∃ X, X = X0 ++ num ac := ⟨_, rfl⟩
  have HXL1 : Hid (X1.length ≤ 20) := by unfold Hid; rw [hX1, List.length_append]; have h1 := HL1.out; have h2 := HXL0.out; omega
  have HOW2 : Hid (y2.ownsRow (w.heap.size + 1) 5 1 v1 X1.length (X1.map (Value.int .u8))) := by unfold Hid; have h1 := HOY1.out; rw [← hX1] at h1; rwa [hX1, List.length_append, ← hX1]
  have HX1 := Lib.hid hX1
  clear hX1 k1
  refine (refnumber_any st HTO.out.st.2 _).mono ?_
  rintro est w2 ⟨n2, rfl, hown2, hb2⟩
  obtain ⟨A2, c2, rfl, hc2, hnil2⟩ := own_slice hown2
  have HL2 : Hid ((num st).length ≤ 10) := num_len HTO.out.st.2
  have HNR2 : Hid (Row .u8 w2 w2.heap.size A2 (num st).length (num st)) := Row.of_own hown2
  have HNN2 := Lib.hid hnil2
  have HOX2 := Lib.hid (own_below HOW2.out hb2)
  have HBX2 := Lib.hid (HBY2.out.trans (hb2.mono (Nat.le_trans (Nat.le_of_eq HS.out.symm) HBY2.out.size)))
  have HZ2 : Hid (w.heap.size + 1 ≤ w2.heap.size) := Nat.le_trans (Nat.le_of_eq HS.out.symm) HBX2.out.size
  clear hown2 hb2 hc2 hnil2
  go_wp2_with (at_builtin; refine cat_own rfl (.tmp 14) (.tmp 17) 29 rfl (w.heap.size + 1) 5 i0 .u8 1 Tryd.underlying29 hi hz0 hz1 hz2 _ (X1.length) X1 rfl HOX2.out w2.heap.size A2 (num st).length c2 (num st) rfl HNN2.out HNR2.out (by have h1 := HL2.out; have h2 := HXL1.out; omega) (by omega) HZ2.out ?_; intro v2 y3 ho2 hy2; have HOY2 := Lib.hid ho2; have HBY3 := Lib.hid (HBX2.out.trans hy2); have k3 := (HBY3.out.cell (p := ⟨w.heap.size, 3, none⟩) (Nat.lt_succ_self _)).trans (cell_of_blk (j := 3) HBK.out rfl); clear ho2 hy2)
  obtain ⟨X2, hX2⟩ : ∃ X, X = X1 ++ num st := ⟨_, rfl⟩
  have HXL2 : Hid (X2.length ≤ 30) := by unfold Hid; rw [hX2, List.length_append]; have h1 := HL2.out; have h2 := HXL1.out; omega
  have HOW3 : Hid (y3.ownsRow (w.heap.size + 1) 5 1 v2 X2.length (X2.map (Value.int .u8))) := by unfold Hid; have h1 := HOY2.out; rw [← hX2] at h1; rwa [hX2, List.length_append, ← hX2]
  have HX2 := Lib.hid hX2
  clear hX2 k2
  refine (refnumber_any is HTO.out.is.2 _).mono ?_
  rintro eis w3 ⟨n3, rfl, hown3, hb3⟩
  obtain ⟨A3, c3, rfl, hc3, hnil3⟩ := own_slice hown3
  have HL3 : Hid ((num is).length ≤ 10) := num_len HTO.out.is.2
  have HNR3 : Hid (Row .u8 w3 w3.heap.size A3 (num is).length (num is)) := Row.of_own hown3
  have HNN3 := Lib.hid hnil3
  have HOX3 := Lib.hid (own_below HOW3.out hb3)
  have HBX3 := Lib.hid (HBY3.out.trans (hb3.mono (Nat.le_trans (Nat.le_of_eq HS.out.symm) HBY3.out.size)))
  have HZ3 : Hid (w.heap.size + 1 ≤ w3.heap.size) := Nat.le_trans (Nat.le_of_eq HS.out.symm) HBX3.out.size
  clear hown3 hb3 hc3 hnil3
  go_wp2_with (at_builtin; refine cat_own rfl (.tmp 19) (.tmp 22) 29 rfl (w.heap.size + 1) 5 i0 .u8 1 Tryd.underlying29 hi hz0 hz1 hz2 _ (X2.length) X2 rfl HOX3.out w3.heap.size A3 (num is).length c3 (num is) rfl HNN3.out HNR3.out (by have h1 := HL3.out; have h2 := HXL2.out; omega) (by omega) HZ3.out ?_; intro v3 y4 ho3 hy3; have HOY3 := Lib.hid ho3; have HBY4 := Lib.hid (HBX3.out.trans hy3); have k4 := (HBY4.out.cell (p := ⟨w.heap.size, 4, none⟩) (Nat.lt_succ_self _)).trans (cell_of_blk (j := 4) HBK.out rfl); clear ho3 hy3)
  obtain ⟨X3, hX3⟩ : ∃ X, X = X2 ++ num is := ⟨_, rfl⟩
  have HXL3 : Hid (X3.length ≤ 40) := by unfold Hid; rw [hX3, List.length_append]; have h1 := HL3.out; have h2 := HXL2.out; omega
  have HOW4 : Hid (y4.ownsRow (w.heap.size + 1) 5 1 v3 X3.length (X3.map (Value.int .u8))) := by unfold Hid; have h1 := HOY3.out; rw [← hX3] at h1; rwa [hX3, List.length_append, ← hX3]
  have HX3 := Lib.hid hX3
  clear hX3 k3
  refine (refnumber_any un HTO.out.un.2 _).mono ?_
  rintro eun w4 ⟨n4, rfl, hown4, hb4⟩
  obtain ⟨A4, c4, rfl, hc4, hnil4⟩ := own_slice hown4
  have HL4 : Hid ((num un).length ≤ 10) := num_len HTO.out.un.2
  have HNR4 : Hid (Row .u8 w4 w4.heap.size A4 (num un).length (num un)) := Row.of_own hown4
  have HNN4 := Lib.hid hnil4
  have HOX4 := Lib.hid (own_below HOW4.out hb4)
  have HBX4 := Lib.hid (HBY4.out.trans (hb4.mono (Nat.le_trans (Nat.le_of_eq HS.out.symm) HBY4.out.size)))
  have HZ4 : Hid (w.heap.size + 1 ≤ w4.heap.size) := Nat.le_trans (Nat.le_of_eq HS.out.symm) HBX4.out.size
  clear hown4 hb4 hc4 hnil4
  go_wp2_with (at_builtin; refine cat_own rfl (.tmp 24) (.tmp 27) 29 rfl (w.heap.size + 1) 5 i0 .u8 1 Tryd.underlying29 hi hz0 hz1 hz2 _ (X3.length) X3 rfl HOX4.out w4.heap.size A4 (num un).length c4 (num un) rfl HNN4.out HNR4.out (by have h1 := HL4.out; have h2 := HXL3.out; omega) (by omega) HZ4.out ?_; intro v4 y5 ho4 hy4; have HOY4 := Lib.hid ho4; have HBY5 := Lib.hid (HBX4.out.trans hy4); have k5 := (HBY5.out.cell (p := ⟨w.heap.size, 5, none⟩) (Nat.lt_succ_self _)).trans (cell_of_blk (j := 5) HBK.out rfl); clear ho4 hy4)
  obtain ⟨X4, hX4⟩ : ∃ X, X = X3 ++ num un := ⟨_, rfl⟩
  have HXL4 : Hid (X4.length ≤ 50) := by unfold Hid; rw [hX4, List.length_append]; have h1 := HL4.out; have h2 := HXL3.out; omega
  have HOW5 : Hid (y5.ownsRow (w.heap.size + 1) 5 1 v4 X4.length (X4.map (Value.int .u8))) := by unfold Hid; have h1 := HOY4.out; rw [← hX4] at h1; rwa [hX4, List.length_append, ← hX4]
  have HX4 := Lib.hid hX4
  clear hX4 k4
  refine (refnumber_any ep HTO.out.ep.2 _).mono ?_
  rintro eep w5 ⟨n5, rfl, hown5, hb5⟩
  obtain ⟨A5, c5, rfl, hc5, hnil5⟩ := own_slice hown5
  have HL5 : Hid ((num ep).length ≤ 10) := num_len HTO.out.ep.2
  have HNR5 : Hid (Row .u8 w5 w5.heap.size A5 (num ep).length (num ep)) := Row.of_own hown5
  have HNN5 := Lib.hid hnil5
  have HOX5 := Lib.hid (own_below HOW5.out hb5)
  have HBX5 := Lib.hid (HBY5.out.trans (hb5.mono (Nat.le_trans (Nat.le_of_eq HS.out.symm) HBY5.out.size)))
  have HZ5 : Hid (w.heap.size + 1 ≤ w5.heap.size) := Nat.le_trans (Nat.le_of_eq HS.out.symm) HBX5.out.size
  clear hown5 hb5 hc5 hnil5
  go_wp2_with (at_builtin; refine cat_own rfl (.tmp 29) (.tmp 32) 29 rfl (w.heap.size + 1) 5 i0 .u8 1 Tryd.underlying29 hi hz0 hz1 hz2 _ (X4.length) X4 rfl HOX5.out w5.heap.size A5 (num ep).length c5 (num ep) rfl HNN5.out HNR5.out (by have h1 := HL5.out; have h2 := HXL4.out; omega) (by omega) HZ5.out ?_; intro v5 y6 ho5 hy5; have HOY5 := Lib.hid ho5; have HBY6 := Lib.hid (HBX5.out.trans hy5); have k6 := (HBY6.out.cell (p := ⟨w.heap.size, 5, none⟩) (Nat.lt_succ_self _)).trans (cell_of_blk (j := 5) HBK.out rfl); clear ho5 hy5)
  obtain ⟨X5, hX5⟩ : ∃ X, X = X4 ++ num ep := ⟨_, rfl⟩
  have HXL5 : Hid (X5.length ≤ 60) := by unfold Hid; rw [hX5, List.length_append]; have h1 := HL5.out; have h2 := HXL4.out; omega
  have HOW6 : Hid (y6.ownsRow (w.heap.size + 1) 5 1 v5 X5.length (X5.map (Value.int .u8))) := by unfold Hid; have h1 := HOY5.out; rw [← hX5] at h1; rwa [hX5, List.length_append, ← hX5]
  have HX5 := Lib.hid hX5
  clear hX5 k5
  go_ret
  have e : X5 = flds ⟨tr, ac, st, is, un, ep⟩ := by
    rw [HX5.out, HX4.out, HX3.out, HX2.out, HX1.out, HX0.out]
    unfold flds
    simp only [List.nil_append, List.append_assoc]
  exact ⟨_, rfl, by rw [← e]; exact own_low HOW6.out (by omega), HB0.out.trans (HBY6.out.mono (by omega))⟩
end Go.Proofs.YtmkdbpdfonpfdaaDoor.Tok

/- Layer 3 (field): Bytes of the Writer and of its reference, as contracts. -/
namespace Go.Proofs.YtmkdbpdfonpfdaaDoor.Fld
open Go.RowKit Var

set_option maxHeartbeats 800000 in
set_option maxRecDepth 100000 in
theorem bytes_any (base g n : Nat) (v : Value) (xs : List Int) (A : Option Addr) (m c : Nat) (ys : List Int) (w : World) (hw : Wr w base g v n xs) (hr : Row .u8 w base A m ys) (hnil : A = none → c = 0) (hn : n + 10 + m ≤ 4398046511104) :
    Calls Tryd.prog 53 #[.pointer (some ⟨g, 0, none⟩), .slice A m c] w (Adds w base g v n xs (num m ++ ys)) := by
  have HW := Lib.hid hw
  have HR := Lib.hid hr
  have HN := Lib.hid hnil
  have HL := Lib.hid (num_len (k := (m : Int)) (by omega))
  clear hw hr hnil
  go_enter Tryd.func53, Tryd.ntmps53
  go_wp2_with fail
  refine (number_any base g n v xs (m : Int) w HW.out (by omega) (by omega)).mono ?_
  rintro e1 w1 ⟨rfl, v1, hw1, hm1⟩
  have HW1 := Lib.hid hw1
  have HM1 := Lib.hid hm1
  clear hw1 hm1
  go_wp2_with fail
  refine (add_any base g _ v1 _ A m c base ys w1 HW1.out (HR.out.below (HW.out.below_of HM1.out)) HN.out (by have := HL.out; omega)).mono ?_
  rintro e2 w2 ⟨rfl, v2, hw2, hm2⟩
  have HW2 := Lib.hid hw2
  have HM2 := Lib.hid hm2
  clear hw2 hm2
  go_wp2
  go_end0
  refine ⟨rfl, v2, ?_, HM1.out.trans HM2.out⟩
  have := HW2.out
  rw [List.append_assoc, Nat.add_assoc, ← List.length_append] at this
  exact this

set_option maxHeartbeats 800000 in
set_option maxRecDepth 100000 in
theorem bytes_nil (A : Option Addr) (m c : Nat) (hm : m ≤ 4398046511104) (w : World) : Calls Tryd.prog 53 #[.pointer none, .slice A m c] w fun e w' => e = .returned (.tuple #[]) ∧ Below w.heap.size w w' := by
  go_enter Tryd.func53, Tryd.ntmps53
  go_wp2_with fail
  refine (number_nil m (by omega) _).mono ?_
  rintro e1 w1 ⟨rfl, hb⟩
  go_wp2_with fail
  refine (add_nil _ _).mono ?_
  rintro e2 w2 ⟨rfl, rfl⟩
  go_wp2
  go_end0
  exact ⟨rfl, hb⟩

set_option maxHeartbeats 800000 in
set_option maxRecDepth 100000 in
theorem refbytes_any (A : Option Addr) (m c B : Nat) (ys : List Int) (w : World) (hr : Row .u8 w B A m ys) (hB : B ≤ w.heap.size) (hnil : A = none → c = 0) (hn : 10 + m ≤ 4398046511104) :
    Calls Tryd.prog 31 #[.slice A m c] w (Makes (num m ++ ys) w) := by
  obtain ⟨i0, hi, hz0, hz1, hz2⟩ := info_parts info_u8
  have HR := Lib.hid hr
  have HN := Lib.hid hnil
  have HL := Lib.hid (num_len (k := (m : Int)) (by omega))
  clear hr hnil
  go_enter Tryd.func31, Tryd.ntmps31
  go_wp2_with (first | (go_at_call 37; refine (refnumber_any (m : Int) (by omega) _).mono ?_; rintro e1 w1 ⟨v1, rfl, hown, hb⟩) | (at_builtin; refine cat_own rfl (.tmp 5) (.tmp 6) 29 rfl w.heap.size 5 i0 .u8 1 Tryd.underlying29 hi hz0 hz1 hz2 _ _ (num m) rfl hown w.heap.size A m c ys rfl HN.out ((HR.out.more hB).below hb) (by have := HL.out; omega) (by omega) hb.size ?_; intro v2 w2 hown2 hb2))
  go_ret
  exact ⟨v2, rfl, by have := HR.out.len; simpa [this] using hown2, hb.trans hb2⟩
end Go.Proofs.YtmkdbpdfonpfdaaDoor.Fld

/- slices.Clone on slices of bytes, as a contract over the program. -/
namespace Go.Proofs.YtmkdbpdfonpfdaaDoor.Slc
open Go.RowKit

theorem info_u8 : (Tryd.prog.info? 5).map (fun i => (i.zero, i.size, i.bytes)) = some (some (.int .u8 0), 1, 1) := by kernel_rfl

set_option maxHeartbeats 400000 in
set_option maxRecDepth 100000 in
/-- slices.Clone: the same bytes in a row of its own; nil of nil. -/
theorem clone_any (A : Option Addr) (n c B : Nat) (xs : List Int) (w : World) (hr : Row .u8 w B A n xs) (hnil : A = none → c = 0) (hB : B ≤ w.heap.size) (hn : n ≤ 4398046511104) :
    Calls Tryd.prog 46 #[.slice A n c] w fun e w' =>
      ∃ v, e = .returned v ∧ w'.ownsRow w.heap.size 5 1 v n (xs.map (Value.int .u8)) ∧ Below w.heap.size w w' := by
  obtain ⟨i0, hi, hz0, hz1, hz2⟩ := info_parts info_u8
  rcases A with _ | a
  · have hm : n = 0 := by
      rcases Nat.eq_zero_or_pos n with h0 | h0
      · exact h0
      · obtain ⟨_, _, h1, _⟩ := hr.2 h0
        cases h1
    subst hm
    have hx : xs = [] := List.eq_nil_of_length_eq_zero hr.1
    subst hx
    clear hr
    obtain rfl := hnil rfl
    clear hnil
    have heq : (binOp .eql 29 (.slice none 0 0) (.slice none 0 0)).run Tryd.prog w = .ok (.bool true) w := Lib.run_eql_slice_nil w 29 5 none 0 0 0 0 Tryd.underlying29
    go_enter Tryd.func46, Tryd.ntmps46
    go_wp2
    go_ret
    exact ⟨_, rfl, World.ownsRow_nil _ _ _ _, Below.refl _ _⟩
  · have HO : Hid ((w.alloc (.cells #[] 5)).ownsRow w.heap.size 5 1 (.slice (some ⟨w.heap.size, 0, none⟩) 0 0) 0 (([] : List Int).map (Value.int .u8))) := World.ownsRow_lit w #[] 0 (Nat.le_refl _) (Nat.zero_le _) rfl
    have HR : Hid (Row .u8 (w.alloc (.cells #[] 5)) B (some a) n xs) := hr.alloc hB _
    have HB0 : Hid (Below w.heap.size w (w.alloc (.cells #[] 5))) := (Below.refl _ _).alloc (Nat.le_refl _) _
    clear hr
    have heq : (binOp .eql 29 (.slice (some a) n c) (.slice none 0 0)).run Tryd.prog w = .ok (.bool false) w := Lib.run_eql_slice_nil w 29 5 (some a) n c 0 0 Tryd.underlying29
    go_enter Tryd.func46, Tryd.ntmps46
    go_wp2_with (at_builtin; refine cat_own rfl (.tmp 5) (.tmp 6) 29 rfl w.heap.size 5 i0 .u8 1 Tryd.underlying29 hi hz0 hz1 hz2 _ 0 [] rfl HO.out B (some a) n c xs rfl (fun h => by cases h) HR.out (by omega) (by omega) (by simp) ?_; intro v2 w2 hown2 hb2)
    go_ret
    exact ⟨_, rfl, by simpa using hown2, HB0.out.trans hb2⟩
end Go.Proofs.YtmkdbpdfonpfdaaDoor.Slc

/- Calls into Go's library on slices of bytes, as contracts over the program: slices.Grow of nil, slices.Concat, slices.Clone, bytes.Equal. -/
namespace Go.Proofs.YtmkdbpdfonpfdaaDoor.Slc
open Go.RowKit


set_option maxHeartbeats 800000 in
set_option maxRecDepth 100000 in
/-- slices.Grow of nil: no elements, room for n. -/
theorem grow_nil (n : Nat) (hn : n ≤ 4398046511104) (w : World) :
    Calls Tryd.prog 74 #[.slice none 0 0, .int .i64 (n : Int)] w fun e w' =>
      ∃ v, e = .returned v ∧ w'.ownsRow w.heap.size 5 1 v 0 (([] : List Int).map (Value.int .u8)) ∧ Below w.heap.size w w' := by
  obtain ⟨i0, hi, hz0, hz1, hz2⟩ := info_parts info_u8
  by_cases h0 : n = 0
  · subst h0
    go_enter Tryd.func74, Tryd.ntmps74
    go_wp2
    go_ret
    exact ⟨_, rfl, World.ownsRow_nil _ _ _ _, Below.refl _ _⟩
  · have hold : (Builtin.firstCells i0.size 0 (.slice none 0 0)).run Tryd.prog w.drew = .ok ([] : List Value).toArray w.drew := run_firstCells_none w.drew i0.size 0 0 0
    have hrz : ∀ ty, (Builtin.append_ #[29, 3] ty #[.slice none 0 0, .int .i64 (n : Int)]).run Tryd.prog w = _ := fun ty =>
      Lib.run_append_grow_zeros w 29 3 ty 5 i0 (.int .u8 0) .i64 .i64 Tryd.underlying29 Tryd.underlying3 hi hz0 none 0 0 [] hold n (by omega) (by omega) (by omega) (by omega) (by rw [hz2]; omega) (growslice_fits (by omega) (by rw [hz2]; omega))
    have hge := grownCap_ge w (0 + n) 0 5
    have hle := grownCap_le_maxLen w (0 + n) 0 5 (by unfold maxLen; omega)
    generalize grownCap w (0 + n) 0 5 = G at *
    have hle' : G ≤ 9223372036854775807 := by unfold maxLen at hle; omega
    go_enter Tryd.func74, Tryd.ntmps74
    go_wp2_with (at_builtin; refine Lib.wpList_append_run _ rfl _ _ _ _ rfl _ _ rfl rfl _ _ (hrz _) ?_)
    go_ret
    refine ⟨_, rfl, ⟨rfl, .inr ⟨w.heap.size, G, _, rfl, Nat.le_refl _, Array.getElem?_push_size, Nat.zero_le _, hle, ?_, by simp⟩⟩, (Below.refl w.heap.size w).drew.alloc (Nat.le_refl _) _⟩
    simp [size_zeroCells]
    omega

set_option maxHeartbeats 1600000 in
set_option maxRecDepth 100000 in
/-- slices.Concat: all parts, one behind the other, in a row of its own. -/
theorem concat_any (L : List Part) (g c B : Nat) (w : World) (hc : ∀ j (h : j < L.length), w.cell? ⟨g, j, none⟩ = some (L[j]).v) (hL : ∀ p ∈ L, p.Right w B) (hB : B ≤ w.heap.size) (hg : g < w.heap.size) (ht : total L ≤ 4398046511104) (hl : L.length ≤ 1000000) :
    Calls Tryd.prog 55 #[.slice (some ⟨g, 0, none⟩) L.length c] w fun e w' =>
      ∃ v, e = .returned v ∧ w'.ownsRow w.heap.size 5 1 v (total L) ((whole L).map (Value.int .u8)) ∧ Below w.heap.size w w' := by
  obtain ⟨i0, hi, hz0, hz1, hz2⟩ := info_parts info_u8
  have HC := Lib.hid hc
  have HL := Lib.hid hL
  clear hc hL
  go_enter Tryd.func55, Tryd.ntmps55
  go_wp2
  go_loop [11, 3] (fun a s => ∃ i : Nat, i ≤ L.length ∧ a = .int .i64 (i : Int) ∧ s = .int .i64 (total (L.take i) : Int)) (fun a _ => L.length - (intOf a).toNat)
  case atStart => exact ⟨0, Nat.zero_le _, rfl, by simp [total]⟩
  case round =>
    obtain ⟨i, hle, rfl, rfl⟩ := hrel
    by_cases hlt : i < L.length
    · have h1 := HC.out i hlt
      have h2 := total_next hlt
      have h3 := total_le L (i + 1)
      unfold Part.v at h1
      generalize L[i] = p at *
      obtain ⟨A, n, c1, xs⟩ := p
      generalize total (L.take i) = t at *
      have h4 : total (L.take (i + 1)) ≤ 4398046511104 := by omega
      obtain ⟨t1, H1⟩ : ∃ t1, Hid (t1 = total (L.take (i + 1))) := ⟨_, Lib.hid rfl⟩
      rw [← H1.out] at h2 h4
      have h5 : t1 = t + n := h2
      have hw : IntKind.i64.wrap ((t : Int) + (n : Int)) = (t1 : Int) := by rw [IntWalk.i64_in _ ⟨by omega, by omega⟩]; omega
      clear h2 h3 h4 h5
      go_wp2
      go_round
      case rel => exact ⟨i + 1, by omega, by go_num, by rw [H1.out]⟩
      case measure => simp [intOf]; omega
    · obtain rfl : i = L.length := by omega
      rw [List.take_length]
      go_wp2_with fail
      refine (grow_nil (total L) ht w).mono ?_
      rintro e1 w1 ⟨v1, rfl, hown1, hb1⟩
      have HB1 := Lib.hid hb1
      have HO1 := Lib.hid hown1
      clear hb1 hown1
      go_wp2_with fail
      go_loopw [27, 6] (fun a v wr => ∃ i : Nat, i ≤ L.length ∧ a = .int .i64 (i : Int) ∧ Hid (wr.ownsRow w.heap.size 5 1 v (total (L.take i)) ((whole (L.take i)).map (Value.int .u8))) ∧ Hid (Below w.heap.size w wr)) (fun a _ _ => L.length - (intOf a).toNat)
      case atStart => exact ⟨0, Nat.zero_le _, rfl, by simpa [total, whole] using HO1, HB1⟩
      case round =>
        obtain ⟨i, hle, rfl, HO, HB⟩ := hrel
        by_cases hlt : i < L.length
        · have h1 := (HB.out.cell (p := ⟨g, i, none⟩) hg).trans (HC.out i hlt)
          have h2 := Lib.hid (total_next hlt)
          have h2' := Lib.hid (whole_next hlt)
          have h3 := total_le L (i + 1)
          obtain ⟨hr, hnil⟩ := HL.out _ (List.getElem_mem hlt)
          have hsum := total_next hlt
          unfold Part.v at h1
          generalize L[i] = p at *
          obtain ⟨A, n, c1, xs⟩ := p
          have hrow : Hid (Row .u8 wr B A n xs) := hr.below (HB.out.mono hB)
          have hsz := HB.out.size
          have hsm : total (L.take i) + n ≤ 4398046511104 := by simp only at hsum; omega
          have HN := Lib.hid hnil
          clear hr hnil hsum h3
          go_wp2_with (at_builtin; refine cat_own rfl (.tmp 31) (.tmp 32) 29 rfl w.heap.size 5 i0 .u8 1 Tryd.underlying29 hi hz0 hz1 hz2 _ (total (L.take i)) (whole (L.take i)) rfl HO.out B A n c1 xs rfl HN.out hrow.out hsm (by omega) hsz ?_; intro v2 w2 hown2 hb2; have HO2 := Lib.hid hown2; have HB2 := Lib.hid (HB.out.trans hb2); clear hown2 hb2)
          go_roundw
          case rel => exact ⟨i + 1, by omega, by go_num, by unfold Hid; rw [h2.out, h2'.out]; exact HO2.out, HB2⟩
          case measure => simp [intOf]; omega
        · obtain rfl : i = L.length := by omega
          rw [List.take_length] at HO
          go_wp2
          go_ret
          exact ⟨_, rfl, HO.out, HB.out⟩

set_option maxRecDepth 100000 in
/-- Bytes as a string. -/
theorem convert_row {A : Option Addr} {n c B : Nat} {xs : List Int} {w : World} (hr : Row .u8 w B A n xs) : (convert 29 9 (.slice A n c)).run Tryd.prog w = .ok (.string (strOfNums xs)) w := by
  rcases A with _ | a
  · have hm : n = 0 := by
      rcases Nat.eq_zero_or_pos n with h0 | h0
      · exact h0
      · obtain ⟨_, _, h1, _⟩ := hr.2 h0
        cases h1
    subst hm
    have hx : xs = [] := List.eq_nil_of_length_eq_zero hr.1
    subst hx
    exact run_convert_bytes_nil (P := Tryd.prog) w 29 5 Tryd.underlying29 Tryd.underlying5 0 c 9 Tryd.underlying9
  · rcases Nat.eq_zero_or_pos n with h0 | h0
    · subst h0
      have hx : xs = [] := List.eq_nil_of_length_eq_zero hr.1
      subst hx
      rw [run_convert_bytes_string w 29 9 5 _ 0 c Tryd.underlying29 Tryd.underlying5 Tryd.underlying9]
      simp [Conv.bytesToString, loadCells, loadCellsFrom, strOfNums]
      rfl
    · obtain ⟨b, o, he, _, hc⟩ := hr.2 h0
      injection he with he
      subst he
      exact run_convert_bytes_arg (P := Tryd.prog) w 29 5 Tryd.underlying29 Tryd.underlying5 b o n c xs hr.1 hc 9 Tryd.underlying9

theorem strOfNums_inj {xs ys : List Int} (hx : ∀ x ∈ xs, 0 ≤ x ∧ x ≤ 255) (hy : ∀ x ∈ ys, 0 ≤ x ∧ x ≤ 255) (h : (strOfNums xs).toList = (strOfNums ys).toList) : xs = ys := by
  rw [Lib.strOfNums_toList, Lib.strOfNums_toList] at h
  unfold Lib.bytesOf at h
  have key : ∀ (xs ys : List Int), (∀ x ∈ xs, 0 ≤ x ∧ x ≤ 255) → (∀ x ∈ ys, 0 ≤ x ∧ x ≤ 255) → (xs.map fun n => UInt8.ofNat n.toNat) = (ys.map fun n => UInt8.ofNat n.toNat) → xs = ys := by
    intro xs
    induction xs with
    | nil => intro ys _ _ h; cases ys with
      | nil => rfl
      | cons y ys => simp at h
    | cons x xs ih =>
      intro ys hx hy h
      cases ys with
      | nil => simp at h
      | cons y ys =>
        simp only [List.map_cons, List.cons.injEq] at h
        have a1 := hx x (by simp)
        have a2 := hy y (by simp)
        have e := congrArg UInt8.toNat h.1
        simp only [UInt8.toNat_ofNat'] at e
        rw [ih ys (fun z hz => hx z (by simp [hz])) (fun z hz => hy z (by simp [hz])) h.2]
        congr 1
        omega
  exact key xs ys hx hy h

set_option maxHeartbeats 400000 in
set_option maxRecDepth 100000 in
/-- bytes.Equal. -/
theorem equal_any (A A' : Option Addr) (n c n' c' B B' : Nat) (xs ys : List Int) (w : World) (hr : Row .u8 w B A n xs) (hr' : Row .u8 w B' A' n' ys) (hx : ∀ x ∈ xs, 0 ≤ x ∧ x ≤ 255) (hy : ∀ x ∈ ys, 0 ≤ x ∧ x ≤ 255) :
    Calls Tryd.prog 77 #[.slice A n c, .slice A' n' c'] w fun e w' => e = .returned (.bool (decide (xs = ys))) ∧ w = w' := by
  have h1 := convert_row (c := c) hr
  have h2 := convert_row (c := c') hr'
  have h3 : ((strOfNums xs).toList == (strOfNums ys).toList) = decide (xs = ys) := by
    by_cases h : xs = ys
    · subst h; simp
    · simp only [h, decide_false]
      exact beq_eq_false_iff_ne.2 fun e => h (strOfNums_inj hx hy e)
  go_enter Tryd.func77, Tryd.ntmps77
  go_wp2
  go_ret
  exact ⟨by rw [← h3]; rfl, rfl⟩
end Go.Proofs.YtmkdbpdfonpfdaaDoor.Slc

/- What crc.table returns, as a contract over the program. -/
namespace Go.Proofs.YtmkdbpdfonpfdaaDoor.Crc
open Go.RowKit

/-- The table's cells, the first i filled. -/
def cells (i : Nat) : Array Value := ((tab i).map (Value.int .u32)).toArray
theorem cells_size (i : Nat) : (cells i).size = 16 := by simp [cells, tab]
theorem tab_next {i : Nat} (hi : i < 16) : (tab i).set i ((steps 4 i : Nat) : Int) = tab (i + 1) := by
  apply List.ext_getElem?
  intro j
  simp only [tab, List.getElem?_set, List.length_map, List.length_range, List.getElem?_map]
  by_cases h : i = j
  · subst h; simp [hi]
  · by_cases hj : j < 16
    · have : j < i + 1 ↔ j < i := by omega
      simp [h, hj, this]
    · simp [h, hj]
theorem cells_next {i : Nat} (hi : i < 16) : (cells i).setIfInBounds i (.int .u32 ((steps 4 i : Nat) : Int)) = cells (i + 1) := by
  unfold cells
  rw [← tab_next hi]
  simp
theorem cells_one (i : Nat) : (cells i).all (·.oneCell') = true := by simp [cells, Value.oneCell']

theorem cells_at {i : Nat} (hi : i < 16) : (cells i)[i]? = some (.int .u32 0) := by simp [cells, tab, hi]

theorem heap_first (w : World) (o o' : Obj) : ((w.alloc o).alloc o').heap[w.heap.size]? = some o := by
  show ((w.heap.push o).push o')[w.heap.size]? = some o
  simp [Array.getElem?_push]
theorem results_cell {fn : Func} {p : Tmp} {ty : TypeId} (h : fn.results = #[.cell p ty]) (tmps : Array Value) (P : Program) (w : World) :
    (results fn tmps).run P w = ((asAddr (tmps.getD p undef)).run P w).andThen fun a w₁ => (loadVar ty a).run P w₁ := by
  simp only [results, h]
  simp [Sem.run_bind, Result.andThen]
theorem cells_full : cells 16 = #[.int .u32 0, .int .u32 498536548, .int .u32 997073096, .int .u32 651767980, .int .u32 1994146192, .int .u32 1802195444, .int .u32 1303535960, .int .u32 1342533948, .int .u32 3988292384, .int .u32 4027552580, .int .u32 3604390888, .int .u32 3412177804, .int .u32 2607071920, .int .u32 2262029012, .int .u32 2685067896, .int .u32 3183342108] := by
  have h : tab 16 = [0, 498536548, 997073096, 651767980, 1994146192, 1802195444, 1303535960, 1342533948, 3988292384, 4027552580, 3604390888, 3412177804, 2607071920, 2262029012, 2685067896, 3183342108] := by decide +kernel
  unfold cells
  rw [h]
  rfl
theorem cells_none : cells 0 = #[.int .u32 0, .int .u32 0, .int .u32 0, .int .u32 0, .int .u32 0, .int .u32 0, .int .u32 0, .int .u32 0, .int .u32 0, .int .u32 0, .int .u32 0, .int .u32 0, .int .u32 0, .int .u32 0, .int .u32 0, .int .u32 0] := by rfl

set_option maxHeartbeats 1000000 in
set_option maxRecDepth 100000 in
theorem table_any (w : World) :
    Calls Tryd.prog 101 #[] w fun e w' => e = .returned (.agg (cells 16)) ∧ Below w.heap.size w w' := by
  go_enter Tryd.func101, Tryd.ntmps101
  go_wp2
  go_loopw [5] (fun a wr => ∃ i : Nat, i ≤ 16 ∧ a = .int .i64 (i : Int) ∧ Hid (wr = (w.alloc (.cells (cells 0) 136)).alloc (.cells (cells i) 136))) (fun a _ => 16 - (intOf a).toNat)
  case atStart => exact ⟨0, Nat.zero_le _, rfl, rfl⟩
  case round =>
    obtain ⟨i, hi, rfl, hw⟩ := hrel
    obtain rfl := hw.out
    clear hw
    by_cases hlt : i < 16
    · have hc := Lib.hid (cells_next hlt)
      go_wp2
      go_loop [10, 3] (fun a b => ∃ k r : Nat, k ≤ 4 ∧ a = .int .i64 (k : Int) ∧ b = .int .u32 (r : Int) ∧ Hid (r = steps k i ∧ r < 4294967296)) (fun a _ => 4 - (intOf a).toNat)
      case atStart => exact ⟨0, i, Nat.zero_le _, rfl, by go_num, by unfold Hid; exact ⟨rfl, by omega⟩⟩
      case round =>
        obtain ⟨k, r, hk, rfl, rfl, HR⟩ := hrel
        by_cases hlt4 : k < 4
        · have hr := HR.out.2
          have hxor : bits .xor .u32 ((r : Int) / 2) 3988292384 = ((r / 2 ^^^ 3988292384 : Nat) : Int) := u32_xor_nat (r / 2) 3988292384 (by omega) (by omega)
          by_cases hodd : r % 2 = 1
          · have ho : ((r : Int) % 2 == 1) = true := by simp; omega
            go_wp2
            go_round
            case rel => exact ⟨k + 1, step r, by omega, by go_num, by unfold step; rw [if_pos hodd], by unfold Hid; exact ⟨by rw [HR.out.1]; rfl, step_lt hr⟩⟩
            case measure => simp [intOf]; omega
          · have ho : ((r : Int) % 2 == 1) = false := by simp; omega
            go_wp2
            go_round
            case rel => exact ⟨k + 1, step r, by omega, by go_num, by unfold step; rw [if_neg hodd]; go_num, by unfold Hid; exact ⟨by rw [HR.out.1]; rfl, step_lt hr⟩⟩
            case measure => simp [intOf]; omega
        · obtain rfl : k = 4 := by omega
          have hat := cells_at hlt
          go_wp2
          refine ⟨⟨i + 1, by omega, by go_num, by unfold Hid; rw [← hc.out, ← HR.out.1]⟩, by simp [intOf]; omega⟩
    · obtain rfl : i = 16 := by omega
      have hld := run_loadVar_row (P := Tryd.prog) ((w.alloc (.cells (cells 16) 136)).alloc (.cells (cells 16) 136)) w.heap.size 136 136 (cells 16) (0, 0) _ (heap_first w _ _) Tryd.underlying136 rfl (by kernel_rfl)
      have Hld := Lib.hid hld
      clear hld
      rw [cells_full, cells_none]
      go_wp2
      (try simp only [Exit.inBlock, Exit.then])
      rw [cells_full] at Hld
      refine bodyPost_ret (v := .agg (cells 16)) ?_ rfl ⟨rfl, (Below.refl _ _).alloc (Nat.le_refl _) _ |>.alloc (by simp) _⟩
      rw [results_cell rfl, cells_full]
      simp [asAddr, Result.andThen, Hld.out]
end Go.Proofs.YtmkdbpdfonpfdaaDoor.Crc
