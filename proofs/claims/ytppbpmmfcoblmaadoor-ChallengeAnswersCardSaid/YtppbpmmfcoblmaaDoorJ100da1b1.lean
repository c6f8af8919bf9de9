/- Lemmas that the proof stands on, in build order: ShaS2 ShaS3. -/
import Derived.Deep.RegionHeld3
import Derived.Test.YtppbpmmfcoblmaaDoorJ24e72b8
import Derived.Test.YtppbpmmfcoblmaaDoorJ94b8122
/- Layer 7 (sha): the reference's Sum: a block's bytes as words. -/
namespace Go.Proofs.YtppbpmmfcoblmaaDoor.Sha
open Go.RowKit

attribute [local go_sem] wi_xor wi_and wi_or wi_add wi_shr3 wi_shr10 wi_com

/-- The first region of a piece of code; the body of the loop whose first region is r. -/
def firstReg : Code → Option Nat
  | .region i _ _ => some i
  | .seq a _ => firstReg a
  | .block _ c => firstReg c
  | .loop c => firstReg c
  | .scope c => firstReg c
  | _ => none
def loopAt (r : Nat) : Code → Option Code
  | .loop c => match firstReg c with
    | some k => if k = r then some c else loopAt r c
    | none => loopAt r c
  | .seq a b => match loopAt r a with
    | some c => some c
    | none => loopAt r b
  | .block _ c => loopAt r c
  | .scope c => loopAt r c
  | .cond _ a b => match loopAt r a with
    | some c => some c
    | none => loopAt r b
  | _ => none
set_option maxHeartbeats 6400000 in
set_option maxRecDepth 1000000 in
theorem loop_words {Q0 : Exit → Act → World → Prop} {s0 s1 s2 s3 s4 s9 s10 s11 s12 s13 s14 s15 s16 s17 s18 s19 s20 s21 s22 s23 s24 s25 s26 s27 s28 s29 s30 s31 s32 s33 s34 s35 s36 s37 s38 s39 s40 s41 s42 s43 s44 s45 s46 s47 s48 s49 s50 s51 s52 s53 s54 s55 s56 s57 s58 s59 s60 s61 s62 s63 s64 s65 s66 s67 s68 s69 s70 s71 s72 s73 s74 s75 s76 s77 s78 s79 s80 s81 s82 s83 s84 s85 s86 s87 s88 s89 s90 s91 s92 s93 s94 s95 s96 s97 s98 s99 s100 s101 s102 s103 s104 s105 s106 s107 s108 s109 s110 s111 s112 s113 s114 s115 s116 s117 s118 s119 s120 s121 s122 s123 s124 s125 s126 s127 s128 s129 s130 s131 s132 s133 s134 s135 s136 s137 s138 s139 s140 s141 s142 s143 s144 s145 s146 s147 s148 s149 s150 s151 s152 s153 s154 s155 s156 s157 s158 s159 s160 s161 s162 s163 s164 s165 s166 s167 s168 s169 s170 s171 s172 s173 s174 s175 s176 s177 s178 s179 s180 s181 s182 s183 s184 s185 s186 s187 s188 s189 s190 s191 s192 s193 s194 s195 s196 s197 s198 s199 s200 s201 s202 s203 s204 s205 s206 s207 s208 s209 s210 s211 s212 s213 s214 s215 s216 s217 s218 s219 s220 s221 s222 s223 s224 s225 s226 s227 s228 s229 s230 s231 s232 s233 s234 s235 s236 s237 s238 s239 s240 s241 s242 s243 s244 s245 s246 s247 s248 s249 s250 s251 s252 s253 s254 s255 s256 s257 s258 s259 s260 s261 s262 s263 s264 s265 s266 s267 s268 s269 s270 s271 s272 s273 s274 s275 s276 s277 s278 s279 s280 s281 s282 s283 s284 s285 s286 s287 s288 s289 s290 s291 s292 : Value} {w3 w : World} {p : List Int} {h : List Wd} {Ah : Option Addr} {B0 P m b3 o3 c3 : Nat}
    (HA : Hid (Row .u8 w3 w3.heap.size (some ⟨b3, o3, none⟩) P p)) (HPB : Hid (∀ x ∈ p, 0 ≤ x ∧ x ≤ 255)) (h64 : 64 * m + 64 ≤ P) (hPb : P ≤ 1099511627900) (HX : Hid (Blk w3 B0 Ah h (.slice none 0 0) 0 (words p (64 * m) 0) w))
    (HEX : Hid (∀ (x7 x8 x9 x10 x35 x36 x37 x38 x39 x40 x41 x42 x43 x44 x45 x46 x47 x48 x49 x50 x51 x52 x53 x54 x55 x56 x57 x58 x59 : Value) (wq : World), Hid (Blk w3 B0 Ah h x7 16 (words p (64 * m) 16) wq) → Q0 (.exit 2) ⟨List.toArray (s0 :: s1 :: s2 :: s3 :: s4 :: .slice (some ⟨b3, o3, none⟩) P c3 :: .int .i64 (64 * (m : Int)) :: x7 :: x8 :: x9 :: x10 :: s11 :: s12 :: s13 :: s14 :: s15 :: s16 :: s17 :: s18 :: s19 :: s20 :: s21 :: s22 :: s23 :: s24 :: s25 :: s26 :: s27 :: s28 :: s29 :: s30 :: s31 :: s32 :: s33 :: s34 :: x35 :: x36 :: x37 :: x38 :: x39 :: x40 :: x41 :: x42 :: x43 :: x44 :: x45 :: x46 :: x47 :: x48 :: x49 :: x50 :: x51 :: x52 :: x53 :: x54 :: x55 :: x56 :: x57 :: x58 :: x59 :: s60 :: s61 :: s62 :: s63 :: s64 :: s65 :: s66 :: s67 :: s68 :: s69 :: s70 :: s71 :: s72 :: s73 :: s74 :: s75 :: s76 :: s77 :: s78 :: s79 :: s80 :: s81 :: s82 :: s83 :: s84 :: s85 :: s86 :: s87 :: s88 :: s89 :: s90 :: s91 :: s92 :: s93 :: s94 :: s95 :: s96 :: s97 :: s98 :: s99 :: s100 :: s101 :: s102 :: s103 :: s104 :: s105 :: s106 :: s107 :: s108 :: s109 :: s110 :: s111 :: s112 :: s113 :: s114 :: s115 :: s116 :: s117 :: s118 :: s119 :: s120 :: s121 :: s122 :: s123 :: s124 :: s125 :: s126 :: s127 :: s128 :: s129 :: s130 :: s131 :: s132 :: s133 :: s134 :: s135 :: s136 :: s137 :: s138 :: s139 :: s140 :: s141 :: s142 :: s143 :: s144 :: s145 :: s146 :: s147 :: s148 :: s149 :: s150 :: s151 :: s152 :: s153 :: s154 :: s155 :: s156 :: s157 :: s158 :: s159 :: s160 :: s161 :: s162 :: s163 :: s164 :: s165 :: s166 :: s167 :: s168 :: s169 :: s170 :: s171 :: s172 :: s173 :: s174 :: s175 :: s176 :: s177 :: s178 :: s179 :: s180 :: s181 :: s182 :: s183 :: s184 :: s185 :: s186 :: s187 :: s188 :: s189 :: s190 :: s191 :: s192 :: s193 :: s194 :: s195 :: s196 :: s197 :: s198 :: s199 :: s200 :: s201 :: s202 :: s203 :: s204 :: s205 :: s206 :: s207 :: s208 :: s209 :: s210 :: s211 :: s212 :: s213 :: s214 :: s215 :: s216 :: s217 :: s218 :: s219 :: s220 :: s221 :: s222 :: s223 :: s224 :: s225 :: s226 :: s227 :: s228 :: s229 :: s230 :: s231 :: s232 :: s233 :: s234 :: s235 :: s236 :: s237 :: s238 :: s239 :: s240 :: s241 :: s242 :: s243 :: s244 :: s245 :: s246 :: s247 :: s248 :: s249 :: s250 :: s251 :: s252 :: s253 :: s254 :: s255 :: s256 :: s257 :: s258 :: s259 :: s260 :: s261 :: s262 :: s263 :: s264 :: s265 :: s266 :: s267 :: s268 :: s269 :: s270 :: s271 :: s272 :: s273 :: s274 :: s275 :: s276 :: s277 :: s278 :: s279 :: s280 :: s281 :: s282 :: s283 :: s284 :: s285 :: s286 :: s287 :: s288 :: s289 :: s290 :: s291 :: s292 :: []), []⟩ wq)) :
    Code.wp Tryd.prog (Code.loop ((Tryd.f77.body.bind (loopAt 9)).getD .skip)) Q0 ⟨List.toArray (s0 :: s1 :: s2 :: s3 :: s4 :: .slice (some ⟨b3, o3, none⟩) P c3 :: .int .i64 (64 * (m : Int)) :: .slice none 0 0 :: .int .i64 0 :: s9 :: s10 :: s11 :: s12 :: s13 :: s14 :: s15 :: s16 :: s17 :: s18 :: s19 :: s20 :: s21 :: s22 :: s23 :: s24 :: s25 :: s26 :: s27 :: s28 :: s29 :: s30 :: s31 :: s32 :: s33 :: s34 :: s35 :: s36 :: s37 :: s38 :: s39 :: s40 :: s41 :: s42 :: s43 :: s44 :: s45 :: s46 :: s47 :: s48 :: s49 :: s50 :: s51 :: s52 :: s53 :: s54 :: s55 :: s56 :: s57 :: s58 :: s59 :: s60 :: s61 :: s62 :: s63 :: s64 :: s65 :: s66 :: s67 :: s68 :: s69 :: s70 :: s71 :: s72 :: s73 :: s74 :: s75 :: s76 :: s77 :: s78 :: s79 :: s80 :: s81 :: s82 :: s83 :: s84 :: s85 :: s86 :: s87 :: s88 :: s89 :: s90 :: s91 :: s92 :: s93 :: s94 :: s95 :: s96 :: s97 :: s98 :: s99 :: s100 :: s101 :: s102 :: s103 :: s104 :: s105 :: s106 :: s107 :: s108 :: s109 :: s110 :: s111 :: s112 :: s113 :: s114 :: s115 :: s116 :: s117 :: s118 :: s119 :: s120 :: s121 :: s122 :: s123 :: s124 :: s125 :: s126 :: s127 :: s128 :: s129 :: s130 :: s131 :: s132 :: s133 :: s134 :: s135 :: s136 :: s137 :: s138 :: s139 :: s140 :: s141 :: s142 :: s143 :: s144 :: s145 :: s146 :: s147 :: s148 :: s149 :: s150 :: s151 :: s152 :: s153 :: s154 :: s155 :: s156 :: s157 :: s158 :: s159 :: s160 :: s161 :: s162 :: s163 :: s164 :: s165 :: s166 :: s167 :: s168 :: s169 :: s170 :: s171 :: s172 :: s173 :: s174 :: s175 :: s176 :: s177 :: s178 :: s179 :: s180 :: s181 :: s182 :: s183 :: s184 :: s185 :: s186 :: s187 :: s188 :: s189 :: s190 :: s191 :: s192 :: s193 :: s194 :: s195 :: s196 :: s197 :: s198 :: s199 :: s200 :: s201 :: s202 :: s203 :: s204 :: s205 :: s206 :: s207 :: s208 :: s209 :: s210 :: s211 :: s212 :: s213 :: s214 :: s215 :: s216 :: s217 :: s218 :: s219 :: s220 :: s221 :: s222 :: s223 :: s224 :: s225 :: s226 :: s227 :: s228 :: s229 :: s230 :: s231 :: s232 :: s233 :: s234 :: s235 :: s236 :: s237 :: s238 :: s239 :: s240 :: s241 :: s242 :: s243 :: s244 :: s245 :: s246 :: s247 :: s248 :: s249 :: s250 :: s251 :: s252 :: s253 :: s254 :: s255 :: s256 :: s257 :: s258 :: s259 :: s260 :: s261 :: s262 :: s263 :: s264 :: s265 :: s266 :: s267 :: s268 :: s269 :: s270 :: s271 :: s272 :: s273 :: s274 :: s275 :: s276 :: s277 :: s278 :: s279 :: s280 :: s281 :: s282 :: s283 :: s284 :: s285 :: s286 :: s287 :: s288 :: s289 :: s290 :: s291 :: s292 :: []), []⟩ w := by
  conv => arg 2; arg 1; whnf
  obtain ⟨j0, ji, jz0, jz1, jz2⟩ := parts_of info32
  go_loopw [7, 8] (fun v i wq => ∃ t : Nat, t ≤ 16 ∧ i = .int .i64 (t : Int) ∧ Hid (Blk w3 B0 Ah h v t (words p (64 * m) t) wq)) (fun _ i _ => 16 - (intOf i).toNat)
  case atStart => exact ⟨0, Nat.zero_le _, rfl, HX⟩
  case round =>
    obtain ⟨t, ht, rfl, HW⟩ := hrel
    by_cases ht16 : t < 16
    · go_wp2_with fail
      go_loopw [9, 10] (fun x d wz => ∃ e : Nat, e ≤ 4 ∧ d = .int .i64 (e : Int) ∧ x = .int .u32 (four p (64 * m + 4 * t) e : Int) ∧ Hid (Blk w3 B0 Ah h u7 t (words p (64 * m) t) wz)) (fun _ d _ => 4 - (intOf d).toNat)
      case atStart => exact ⟨0, Nat.zero_le _, rfl, rfl, HW⟩
      case round =>
        obtain ⟨e, he, rfl, rfl, HW⟩ := hrel
        by_cases he4 : e < 4
        · have hf := four_lt HPB.out (64 * m + 4 * t) e
          have hf2 : 256 ^ e ≤ 256 ^ 3 := Nat.pow_le_pow_right (by omega) (by omega)
          have hjP : 64 * m + 4 * t + e < P := by omega
          obtain ⟨_, _, e1, -, hcell⟩ := (HA.out.below HW.out.bel).cell_at hjP
          injection e1 with e1
          injection e1 with e1 e2
          subst e1 e2
          obtain ⟨y, hy, hyb⟩ := byte_at HPB.out (64 * m + 4 * t + e)
          rw [hy] at hcell
          have hnx : four p (64 * m + 4 * t) (e + 1) = four p (64 * m + 4 * t) e * 256 + y := by simp only [four]; rw [hy]; rfl
          obtain ⟨X, hX⟩ : ∃ X, four p (64 * m + 4 * t) e = X := ⟨_, rfl⟩
          rw [hX] at hf hnx ⊢
          have HNX := Lib.hid hnx
          have hXb : X ≤ 16777215 := by omega
          have i1 : (0 : Int) ≤ 64 * (m : Int) + 4 * (t : Int) + (e : Int) := by omega
          have i2 : 64 * (m : Int) + 4 * (t : Int) + (e : Int) < (P : Int) := by omega
          have i3 : (64 * (m : Int) + 4 * (t : Int) + (e : Int)).toNat = 64 * m + 4 * t + e := by omega
          clear hf hf2 hjP hy hnx hX
          go_wp2_with fail
          go_roundw
          case rel => exact ⟨e + 1, by omega, by go_num, congrArg (Value.int .u32) (by rw [HNX.out]; omega), HW⟩
          case measure => simp [intOf]; omega
        · have he4' : e = 4 := by omega
          subst he4'
          have hf := four_lt HPB.out (64 * m + 4 * t) 4
          have hwd : words p (64 * m) (t + 1) = words p (64 * m) t ++ [BitVec.ofNat 32 (four p (64 * m + 4 * t) 4)] := rfl
          have hwi : (four p (64 * m + 4 * t) 4 : Int) = wi (BitVec.ofNat 32 (four p (64 * m + 4 * t) 4)) := wi_of _ (by omega)
          rw [hwi]
          generalize BitVec.ofNat 32 (four p (64 * m + 4 * t) 4) = a at hwd
          have HWD := Lib.hid hwd
          have hown : wr.ownsRow B0 101 1 u7 t (((words p (64 * m) t).map wi).map (Value.int .u32)) := HW.out.own
          have HOW := Lib.hid hown
          have hsz := HW.out.sz
          clear hf hwd hwi hown
          go_wp2_with (at_builtin; refine push_own rfl (.tmp 56) (.tmp 58) 132 rfl B0 101 j0 .u32 4 Tryd.underlying132 ji jz0 jz1 jz2 _ t ((words p (64 * m) t).map wi) (wi a) rfl HOW.out rfl (by omega) (by omega) hsz ?_; intro v4 w4 hown4 hb4; have HW4 := Lib.hid (Blk.push HW.out hown4 hb4); clear hown4 hb4)
          go_roundw
          case rel => exact ⟨t + 1, by omega, by go_num, by rw [HWD.out]; exact HW4⟩
          case measure => simp [intOf]; omega
    · obtain rfl : t = 16 := by omega
      go_wp2_with fail
      exact HEX.out _ _ _ _ _ _ _ _ _ _ _ _ _ _ _ _ _ _ _ _ _ _ _ _ _ _ _ _ _ _ HW
end Go.Proofs.YtppbpmmfcoblmaaDoor.Sha

/- Layer 7 (sha): the reference's Sum: its schedule. -/
namespace Go.Proofs.YtppbpmmfcoblmaaDoor.Sha
open Go.RowKit

attribute [local go_sem] wi_xor wi_and wi_or wi_add wi_shr3 wi_shr10 wi_com

set_option maxHeartbeats 6400000 in
set_option maxRecDepth 1000000 in
theorem loop_sched {Q0 : Exit → Act → World → Prop} {s0 s1 s2 s3 s4 s5 s6 s8 s9 s10 s12 s13 s14 s15 s16 s17 s18 s19 s20 s21 s22 s23 s24 s25 s26 s27 s28 s29 s30 s31 s32 s33 s34 s35 s36 s37 s38 s39 s40 s41 s42 s43 s44 s45 s46 s47 s48 s49 s50 s51 s52 s53 s54 s55 s56 s57 s58 s59 s60 s61 s62 s63 s64 s65 s66 s67 s68 s69 s70 s71 s72 s73 s74 s75 s76 s77 s78 s79 s80 s81 s82 s83 s84 s85 s86 s87 s88 s89 s90 s91 s92 s93 s94 s95 s96 s97 s98 s99 s100 s101 s102 s103 s104 s105 s106 s107 s108 s109 s110 s111 s112 s113 s114 s115 s116 s117 s118 s119 s120 s121 s122 s123 s124 s125 s126 s127 s128 s129 s130 s131 s132 s133 s134 s135 s136 s137 s138 s139 s140 s141 s142 s143 s144 s145 s146 s147 s148 s149 s150 s151 s152 s153 s154 s155 s156 s157 s158 s159 s160 s161 s162 s163 s164 s165 s166 s167 s168 s169 s170 s171 s172 s173 s174 s175 s176 s177 s178 s179 s180 s181 s182 s183 s184 s185 s186 s187 s188 s189 s190 s191 s192 s193 s194 s195 s196 s197 s198 s199 s200 s201 s202 s203 s204 s205 s206 s207 s208 s209 s210 s211 s212 s213 s214 s215 s216 s217 s218 s219 s220 s221 s222 s223 s224 s225 s226 s227 s228 s229 s230 s231 s232 s233 s234 s235 s236 s237 s238 s239 s240 s241 s242 s243 s244 s245 s246 s247 s248 s249 s250 s251 s252 s253 s254 s255 s256 s257 s258 s259 s260 s261 s262 s263 s264 s265 s266 s267 s268 s269 s270 s271 s272 s273 s274 s275 s276 s277 s278 s279 s280 s281 s282 s283 s284 s285 s286 s287 s288 s289 s290 s291 s292 : Value} {v7 : Value} {w3 w : World} {h W0 : List Wd} {Ah : Option Addr} {B0 : Nat}
    (HW0 : Hid (W0.length = 16)) (HX : Hid (Blk w3 B0 Ah h v7 16 (sched (16 - 16) W0) w))
    (HEX : Hid (∀ (x7 x11 x12 x13 x60 x61 x62 x63 x64 x65 x66 x67 x68 x69 x70 x71 x72 x73 x74 x75 x76 x77 x78 x79 x80 x81 x82 x83 x84 x85 x86 x87 x88 x89 x90 x91 x92 x93 x94 x95 x96 x97 x98 x99 x100 x101 x102 x103 x104 x105 x106 x107 x108 x109 x110 x111 x112 x113 x114 x115 x116 x117 x118 x119 x120 x121 : Value) (wq : World), Hid (Blk w3 B0 Ah h x7 64 (sched 48 W0) wq) → Q0 (.exit 6) ⟨List.toArray (s0 :: s1 :: s2 :: s3 :: s4 :: s5 :: s6 :: x7 :: s8 :: s9 :: s10 :: x11 :: x12 :: x13 :: s14 :: s15 :: s16 :: s17 :: s18 :: s19 :: s20 :: s21 :: s22 :: s23 :: s24 :: s25 :: s26 :: s27 :: s28 :: s29 :: s30 :: s31 :: s32 :: s33 :: s34 :: s35 :: s36 :: s37 :: s38 :: s39 :: s40 :: s41 :: s42 :: s43 :: s44 :: s45 :: s46 :: s47 :: s48 :: s49 :: s50 :: s51 :: s52 :: s53 :: s54 :: s55 :: s56 :: s57 :: s58 :: s59 :: x60 :: x61 :: x62 :: x63 :: x64 :: x65 :: x66 :: x67 :: x68 :: x69 :: x70 :: x71 :: x72 :: x73 :: x74 :: x75 :: x76 :: x77 :: x78 :: x79 :: x80 :: x81 :: x82 :: x83 :: x84 :: x85 :: x86 :: x87 :: x88 :: x89 :: x90 :: x91 :: x92 :: x93 :: x94 :: x95 :: x96 :: x97 :: x98 :: x99 :: x100 :: x101 :: x102 :: x103 :: x104 :: x105 :: x106 :: x107 :: x108 :: x109 :: x110 :: x111 :: x112 :: x113 :: x114 :: x115 :: x116 :: x117 :: x118 :: x119 :: x120 :: x121 :: s122 :: s123 :: s124 :: s125 :: s126 :: s127 :: s128 :: s129 :: s130 :: s131 :: s132 :: s133 :: s134 :: s135 :: s136 :: s137 :: s138 :: s139 :: s140 :: s141 :: s142 :: s143 :: s144 :: s145 :: s146 :: s147 :: s148 :: s149 :: s150 :: s151 :: s152 :: s153 :: s154 :: s155 :: s156 :: s157 :: s158 :: s159 :: s160 :: s161 :: s162 :: s163 :: s164 :: s165 :: s166 :: s167 :: s168 :: s169 :: s170 :: s171 :: s172 :: s173 :: s174 :: s175 :: s176 :: s177 :: s178 :: s179 :: s180 :: s181 :: s182 :: s183 :: s184 :: s185 :: s186 :: s187 :: s188 :: s189 :: s190 :: s191 :: s192 :: s193 :: s194 :: s195 :: s196 :: s197 :: s198 :: s199 :: s200 :: s201 :: s202 :: s203 :: s204 :: s205 :: s206 :: s207 :: s208 :: s209 :: s210 :: s211 :: s212 :: s213 :: s214 :: s215 :: s216 :: s217 :: s218 :: s219 :: s220 :: s221 :: s222 :: s223 :: s224 :: s225 :: s226 :: s227 :: s228 :: s229 :: s230 :: s231 :: s232 :: s233 :: s234 :: s235 :: s236 :: s237 :: s238 :: s239 :: s240 :: s241 :: s242 :: s243 :: s244 :: s245 :: s246 :: s247 :: s248 :: s249 :: s250 :: s251 :: s252 :: s253 :: s254 :: s255 :: s256 :: s257 :: s258 :: s259 :: s260 :: s261 :: s262 :: s263 :: s264 :: s265 :: s266 :: s267 :: s268 :: s269 :: s270 :: s271 :: s272 :: s273 :: s274 :: s275 :: s276 :: s277 :: s278 :: s279 :: s280 :: s281 :: s282 :: s283 :: s284 :: s285 :: s286 :: s287 :: s288 :: s289 :: s290 :: s291 :: s292 :: []), []⟩ wq)) :
    Code.wp Tryd.prog (Code.loop ((Tryd.f77.body.bind (loopAt 18)).getD .skip)) Q0 ⟨List.toArray (s0 :: s1 :: s2 :: s3 :: s4 :: s5 :: s6 :: v7 :: s8 :: s9 :: s10 :: .int .i64 16 :: s12 :: s13 :: s14 :: s15 :: s16 :: s17 :: s18 :: s19 :: s20 :: s21 :: s22 :: s23 :: s24 :: s25 :: s26 :: s27 :: s28 :: s29 :: s30 :: s31 :: s32 :: s33 :: s34 :: s35 :: s36 :: s37 :: s38 :: s39 :: s40 :: s41 :: s42 :: s43 :: s44 :: s45 :: s46 :: s47 :: s48 :: s49 :: s50 :: s51 :: s52 :: s53 :: s54 :: s55 :: s56 :: s57 :: s58 :: s59 :: s60 :: s61 :: s62 :: s63 :: s64 :: s65 :: s66 :: s67 :: s68 :: s69 :: s70 :: s71 :: s72 :: s73 :: s74 :: s75 :: s76 :: s77 :: s78 :: s79 :: s80 :: s81 :: s82 :: s83 :: s84 :: s85 :: s86 :: s87 :: s88 :: s89 :: s90 :: s91 :: s92 :: s93 :: s94 :: s95 :: s96 :: s97 :: s98 :: s99 :: s100 :: s101 :: s102 :: s103 :: s104 :: s105 :: s106 :: s107 :: s108 :: s109 :: s110 :: s111 :: s112 :: s113 :: s114 :: s115 :: s116 :: s117 :: s118 :: s119 :: s120 :: s121 :: s122 :: s123 :: s124 :: s125 :: s126 :: s127 :: s128 :: s129 :: s130 :: s131 :: s132 :: s133 :: s134 :: s135 :: s136 :: s137 :: s138 :: s139 :: s140 :: s141 :: s142 :: s143 :: s144 :: s145 :: s146 :: s147 :: s148 :: s149 :: s150 :: s151 :: s152 :: s153 :: s154 :: s155 :: s156 :: s157 :: s158 :: s159 :: s160 :: s161 :: s162 :: s163 :: s164 :: s165 :: s166 :: s167 :: s168 :: s169 :: s170 :: s171 :: s172 :: s173 :: s174 :: s175 :: s176 :: s177 :: s178 :: s179 :: s180 :: s181 :: s182 :: s183 :: s184 :: s185 :: s186 :: s187 :: s188 :: s189 :: s190 :: s191 :: s192 :: s193 :: s194 :: s195 :: s196 :: s197 :: s198 :: s199 :: s200 :: s201 :: s202 :: s203 :: s204 :: s205 :: s206 :: s207 :: s208 :: s209 :: s210 :: s211 :: s212 :: s213 :: s214 :: s215 :: s216 :: s217 :: s218 :: s219 :: s220 :: s221 :: s222 :: s223 :: s224 :: s225 :: s226 :: s227 :: s228 :: s229 :: s230 :: s231 :: s232 :: s233 :: s234 :: s235 :: s236 :: s237 :: s238 :: s239 :: s240 :: s241 :: s242 :: s243 :: s244 :: s245 :: s246 :: s247 :: s248 :: s249 :: s250 :: s251 :: s252 :: s253 :: s254 :: s255 :: s256 :: s257 :: s258 :: s259 :: s260 :: s261 :: s262 :: s263 :: s264 :: s265 :: s266 :: s267 :: s268 :: s269 :: s270 :: s271 :: s272 :: s273 :: s274 :: s275 :: s276 :: s277 :: s278 :: s279 :: s280 :: s281 :: s282 :: s283 :: s284 :: s285 :: s286 :: s287 :: s288 :: s289 :: s290 :: s291 :: s292 :: []), []⟩ w := by
  conv => arg 2; arg 1; whnf
  obtain ⟨j0, ji, jz0, jz1, jz2⟩ := parts_of info32
  go_loopw [7, 11] (fun v i wq => ∃ T : Nat, 16 ≤ T ∧ T ≤ 64 ∧ i = .int .i64 (T : Int) ∧ Hid (Blk w3 B0 Ah h v T (sched (T - 16) W0) wq)) (fun _ i _ => 64 - (intOf i).toNat)
  case atStart => exact ⟨16, by omega, by omega, rfl, HX⟩
  case round =>
    obtain ⟨T, hT, hT64, rfl, HW⟩ := hrel
    by_cases ht48 : T < 64
    · have hsl : (sched (T - 16) W0).length = T := by rw [sched_len, HW0.out]; omega
      have hsn : sched (T + 1 - 16) W0 = sched (T - 16) W0 ++ [more (sched (T - 16) W0)] := by rw [show T + 1 - 16 = T - 16 + 1 by omega]; rfl
      have hmo : more (sched (T - 16) W0) = wat (sched (T - 16) W0) (T - 16) + sg0 (wat (sched (T - 16) W0) (T - 15)) + wat (sched (T - 16) W0) (T - 7) + sg1 (wat (sched (T - 16) W0) (T - 2)) := by unfold more; rw [hsl]
      generalize sched (T - 16) W0 = l at HW hsl hsn hmo
      obtain ⟨g7, c7, rfl, hb7, hc7⟩ := HW.out.read (by omega)
      have N16 := Lib.hid (wv_at (l := l) (j := T - 16) (by omega))
      have N7 := Lib.hid (wv_at (l := l) (j := T - 7) (by omega))
      have k15 := hc7 (T - 15) (by omega)
      have k2 := hc7 (T - 2) (by omega)
      have k16 := hc7 (T - 16) (by omega)
      have k7 := hc7 (T - 7) (by omega)
      obtain ⟨a15, ha15⟩ : ∃ a, wat l (T - 15) = a := ⟨_, rfl⟩
      obtain ⟨a2, ha2⟩ : ∃ a, wat l (T - 2) = a := ⟨_, rfl⟩
      obtain ⟨a16, ha16⟩ : ∃ a, wat l (T - 16) = a := ⟨_, rfl⟩
      obtain ⟨a7, ha7⟩ : ∃ a, wat l (T - 7) = a := ⟨_, rfl⟩
      rw [ha15] at k15 hmo
      rw [ha2] at k2 hmo
      rw [ha16] at k16 hmo N16
      rw [ha7] at k7 hmo N7
      have HMO := Lib.hid hmo
      have HSN := Lib.hid hsn
      have w15 : IntKind.i64.wrap ((T : Int) - 15) = (T : Int) - 15 := IntWalk.i64_in _ ⟨by omega, by omega⟩
      have w2 : IntKind.i64.wrap ((T : Int) - 2) = (T : Int) - 2 := IntWalk.i64_in _ ⟨by omega, by omega⟩
      have w16 : IntKind.i64.wrap ((T : Int) - 16) = (T : Int) - 16 := IntWalk.i64_in _ ⟨by omega, by omega⟩
      have w7 : IntKind.i64.wrap ((T : Int) - 7) = (T : Int) - 7 := IntWalk.i64_in _ ⟨by omega, by omega⟩
      have p15 : (0 : Int) ≤ (T : Int) - 15 := by omega
      have p2 : (0 : Int) ≤ (T : Int) - 2 := by omega
      have p16 : (0 : Int) ≤ (T : Int) - 16 := by omega
      have p7 : (0 : Int) ≤ (T : Int) - 7 := by omega
      have r15 : (T : Int) - 15 < T := by omega
      have r2 : (T : Int) - 2 < T := by omega
      have r16 : (T : Int) - 16 < T := by omega
      have r7 : (T : Int) - 7 < T := by omega
      have s15 : (15 : Int) ≤ (T : Int) := by omega
      have s2 : (2 : Int) ≤ (T : Int) := by omega
      have s16 : (16 : Int) ≤ (T : Int) := by omega
      have s7 : (7 : Int) ≤ (T : Int) := by omega
      have q15 : ((T : Int) - 15).toNat = T - 15 := by omega
      have q2 : ((T : Int) - 2).toNat = T - 2 := by omega
      have q16 : ((T : Int) - 16).toNat = T - 16 := by omega
      have q7 : ((T : Int) - 7).toNat = T - 7 := by omega
      clear ha15 ha2 ha16 ha7 hmo hsn hsl hc7
      go_wp2_with fail
      have E0 : Hid (rot a15 7 ^^^ rot a15 18 ^^^ a15 >>> 3 = sg0 a15) := rfl
      have E1 : Hid (rot a2 17 ^^^ rot a2 19 ^^^ a2 >>> 10 = sg1 a2) := rfl
      go_quiet ((go_at_call 96; exact Calls.quiet_of (turned_z _ _ (by decide) (by decide) _)))
      rw [E0.out]
      have HW1 : Hid (Blk w3 B0 Ah h (.slice (some ⟨g7, 0, none⟩) T c7) T l (wr.drewN nq)) := HW.out.drew
      have k2' : (wr.drewN nq).cell? ⟨g7, T - 2, none⟩ = some (.int .u32 (wi a2)) := k2
      have k16' : (wr.drewN nq).cell? ⟨g7, T - 16, none⟩ = some (.int .u32 (wi a16)) := k16
      have k7' : (wr.drewN nq).cell? ⟨g7, T - 7, none⟩ = some (.int .u32 (wi a7)) := k7
      clear k2 k16 k7 k15 HW
      generalize wr.drewN nq = wx at HW1 k2' k16' k7' ⊢
      go_wp2_with fail
      go_quiet ((go_at_call 96; exact Calls.quiet_of (turned_z _ _ (by decide) (by decide) _)))
      rw [E1.out]
      have HW2 : Hid (Blk w3 B0 Ah h (.slice (some ⟨g7, 0, none⟩) T c7) T l (wx.drewN nq)) := HW1.out.drew
      have k16 : (wx.drewN nq).cell? ⟨g7, T - 16, none⟩ = some (.int .u32 (wi a16)) := k16'
      have k7 : (wx.drewN nq).cell? ⟨g7, T - 7, none⟩ = some (.int .u32 (wi a7)) := k7'
      clear k2' k16' k7' HW1
      generalize wx.drewN nq = wy at HW2 k16 k7 ⊢
      go_wp2_with fail
      have HG7 : Hid (g7 < wy.heap.size) := by have := HW2.out.own.lt g7 rfl; exact this.2
      have KA : ∀ o, (wy.drew.alloc o).cell? ⟨g7, T - 16, none⟩ = some (.int .u32 (wi a16)) ∧ (wy.drew.alloc o).cell? ⟨g7, T - 7, none⟩ = some (.int .u32 (wi a7)) := fun o => ⟨(((Below.refl _ wy).drew.alloc (Nat.le_refl _) o).cell (p := ⟨g7, T - 16, none⟩) HG7.out).trans k16, (((Below.refl _ wy).drew.alloc (Nat.le_refl _) o).cell (p := ⟨g7, T - 7, none⟩) HG7.out).trans k7⟩
      have kd16 : wy.drew.cell? ⟨g7, T - 16, none⟩ = some (.int .u32 (wi a16)) := k16
      have kd7 : wy.drew.cell? ⟨g7, T - 7, none⟩ = some (.int .u32 (wi a7)) := k7
      have HW3 : Hid (Blk w3 B0 Ah h (.slice (some ⟨g7, 0, none⟩) T c7) T l wy.drew) := HW2.out.drew (q := 1)
      have hown : wy.drew.ownsRow B0 101 1 (.slice (some ⟨g7, 0, none⟩) T c7) T ((l.map wi).map (Value.int .u32)) := HW3.out.own
      have HOW := Lib.hid hown
      have hsz := HW3.out.sz
      clear hown k16 k7
      go_region_held3 (fun wx => wx.cell? ⟨g7, T - 16, none⟩ = some (.int .u32 (wi a16)) ∧ wx.cell? ⟨g7, T - 7, none⟩ = some (.int .u32 (wi a7))) (first | exact ⟨m16, m7⟩ | exact ⟨kd16, kd7⟩ | exact KA _) (first
        | (refine step_push rfl (.tmp 104) (.tmp 120) 132 rfl B0 j0 4 Tryd.underlying132 ji jz0 jz1 jz2 _ T (l.map wi) rfl HOW.out rfl (by omega) (by omega) hsz ?_; intro v4 w4 hown4 hb4 _ hkeep; have m16 := hkeep g7 T c7 rfl (T - 16) _ N16.out; have m7 := hkeep g7 T c7 rfl (T - 7) _ N7.out; have HOW4 := Lib.hid hown4; have HB4 := Lib.hid hb4; clear hown4 hb4 hkeep))
      have HW4 := Lib.hid (Blk.push HW3.out HOW4.out HB4.out)
      go_wp2
      go_roundw
      case rel => exact ⟨T + 1, by omega, by omega, by go_num, by rw [HSN.out, HMO.out]; exact HW4⟩
      case measure => simp [intOf]; omega
    · obtain rfl : T = 64 := by omega
      go_wp2_with fail
      exact HEX.out _ _ _ _ _ _ _ _ _ _ _ _ _ _ _ _ _ _ _ _ _ _ _ _ _ _ _ _ _ _ _ _ _ _ _ _ _ _ _ _ _ _ _ _ _ _ _ _ _ _ _ _ _ _ _ _ _ _ _ _ _ _ _ _ _ _ _ HW
end Go.Proofs.YtppbpmmfcoblmaaDoor.Sha
