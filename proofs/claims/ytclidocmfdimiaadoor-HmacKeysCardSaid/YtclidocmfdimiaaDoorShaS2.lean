/- Layer 7 (sha): the reference's Sum: a block's bytes as words. -/
import Derived.Test.YtclidocmfdimiaaDoorShaT
import Derived.Test.YtclidocmfdimiaaDoorShaV
import Derived.Test.YtclidocmfdimiaaDoorShaP
import Derived.Test.YtclidocmfdimiaaDoorCat
import Derived.Deep.RegionHeld3
namespace Go.Proofs.YtclidocmfdimiaaDoor.Sha
open Go.RowKit

attribute [local go_sem] wi_xor wi_and wi_or wi_add wi_shr3 wi_shr10 wi_com

/-- The first region of a piece of code; the body of the loop whose first region is r. -/
def firstReg : Code → Option Nat
  | .region i _ _ => some i
  | .seq a _ => firstReg a
  | .block _ c => firstReg c
  | .loop c => firstReg c
  | .scope c => firstReg c
  | _ => none
def loopAt (r : Nat) : Code → Option Code
  | .loop c => match firstReg c with
    | some k => if k = r then some c else loopAt r c
    | none => loopAt r c
  | .seq a b => match loopAt r a with
    | some c => some c
    | none => loopAt r b
  | .block _ c => loopAt r c
  | .scope c => loopAt r c
  | .cond _ a b => match loopAt r a with
    | some c => some c
    | none => loopAt r b
  | _ => none
set_option maxHeartbeats 6400000 in
set_option maxRecDepth 1000000 in
theorem loop_words {Q0 : Exit → Act → World → Prop} {s0 s1 s2 s3 s4 s9 s10 s11 s12 s13 s14 s15 s16 s17 s18 s19 s20 s21 s22 s23 s24 s25 s26 s27 s28 s29 s30 s31 s32 s33 s34 s35 s36 s37 s38 s39 s40 s41 s42 s43 s44 s45 s46 s47 s48 s49 s50 s51 s52 s53 s54 s55 s56 s57 s58 s59 s60 s61 s62 s63 s64 s65 s66 s67 s68 s69 s70 s71 s72 s73 s74 s75 s76 s77 s78 s79 s80 s81 s82 s83 s84 s85 s86 s87 s88 s89 s90 s91 s92 s93 s94 s95 s96 s97 s98 s99 s100 s101 s102 s103 s104 s105 s106 s107 s108 s109 s110 s111 s112 s113 s114 s115 s116 s117 s118 s119 s120 s121 s122 s123 s124 s125 s126 s127 s128 s129 s130 s131 s132 s133 s134 s135 s136 s137 s138 s139 s140 s141 s142 s143 s144 s145 s146 s147 s148 s149 s150 s151 s152 s153 s154 s155 s156 s157 s158 s159 s160 s161 s162 s163 s164 s165 s166 s167 s168 s169 s170 s171 s172 s173 s174 s175 s176 s177 s178 s179 s180 s181 s182 s183 s184 s185 s186 s187 s188 s189 s190 s191 s192 s193 s194 s195 s196 s197 s198 s199 s200 s201 s202 s203 s204 s205 s206 s207 s208 s209 s210 s211 s212 s213 s214 s215 s216 s217 s218 s219 s220 s221 s222 s223 s224 s225 s226 s227 s228 s229 s230 s231 s232 s233 s234 s235 s236 s237 s238 s239 s240 s241 s242 s243 s244 s245 s246 s247 s248 s249 s250 s251 s252 s253 s254 s255 s256 s257 s258 s259 s260 s261 s262 s263 s264 s265 s266 s267 s268 s269 s270 s271 s272 s273 s274 s275 s276 s277 s278 s279 s280 s281 s282 s283 s284 s285 s286 s287 s288 s289 s290 s291 s292 : Value} {w3 w : World} {p : List Int} {h : List Wd} {Ah : Option Addr} {B0 P m b3 o3 c3 : Nat}
    (HA : Hid (Row .u8 w3 w3.heap.size (some ⟨b3, o3, none⟩) P p)) (HPB : Hid (∀ x ∈ p, 0 ≤ x ∧ x ≤ 255)) (h64 : 64 * m + 64 ≤ P) (hPb : P ≤ 1099511627900) (HX : Hid (Blk w3 B0 Ah h (.slice none 0 0) 0 (words p (64 * m) 0) w))
    (HEX : Hid (∀ (x7 x8 x9 x10 x35 x36 x37 x38 x39 x40 x41 x42 x43 x44 x45 x46 x47 x48 x49 x50 x51 x52 x53 x54 x55 x56 x57 x58 x59 : Value) (wq : World), Hid (Blk w3 B0 Ah h x7 16 (words p (64 * m) 16) wq) → Q0 (.exit 2) ⟨List.toArray (s0 :: s1 :: s2 :: s3 :: s4 :: .slice (some ⟨b3, o3, none⟩) P c3 :: .int .i64 (64 * (m : Int)) :: x7 :: x8 :: x9 :: x10 :: s11 :: s12 :: s13 :: s14 :: s15 :: s16 :: s17 :: s18 :: s19 :: s20 :: s21 :: s22 :: s23 :: s24 :: s25 :: s26 :: s27 :: s28 :: s29 :: s30 :: s31 :: s32 :: s33 :: s34 :: x35 :: x36 :: x37 :: x38 :: x39 :: x40 :: x41 :: x42 :: x43 :: x44 :: x45 :: x46 :: x47 :: x48 :: x49 :: x50 :: x51 :: x52 :: x53 :: x54 :: x55 :: x56 :: x57 :: x58 :: x59 :: s60 :: s61 :: s62 :: s63 :: s64 :: s65 :: s66 :: s67 :: s68 :: s69 :: s70 :: s71 :: s72 :: s73 :: s74 :: s75 :: s76 :: s77 :: s78 :: s79 :: s80 :: s81 :: s82 :: s83 :: s84 :: s85 :: s86 :: s87 :: s88 :: s89 :: s90 :: s91 :: s92 :: s93 :: s94 :: s95 :: s96 :: s97 :: s98 :: s99 :: s100 :: s101 :: s102 :: s103 :: s104 :: s105 :: s106 :: s107 :: s108 :: s109 :: s110 :: s111 :: s112 :: s113 :: s114 :: s115 :: s116 :: s117 :: s118 :: s119 :: s120 :: s121 :: s122 :: s123 :: s124 :: s125 :: s126 :: s127 :: s128 :: s129 :: s130 :: s131 :: s132 :: s133 :: s134 :: s135 :: s136 :: s137 :: s138 :: s139 :: s140 :: s141 :: s142 :: s143 :: s144 :: s145 :: s146 :: s147 :: s148 :: s149 :: s150 :: s151 :: s152 :: s153 :: s154 :: s155 :: s156 :: s157 :: s158 :: s159 :: s160 :: s161 :: s162 :: s163 :: s164 :: s165 :: s166 :: s167 :: s168 :: s169 :: s170 :: s171 :: s172 :: s173 :: s174 :: s175 :: s176 :: s177 :: s178 :: s179 :: s180 :: s181 :: s182 :: s183 :: s184 :: s185 :: s186 :: s187 :: s188 :: s189 :: s190 :: s191 :: s192 :: s193 :: s194 :: s195 :: s196 :: s197 :: s198 :: s199 :: s200 :: s201 :: s202 :: s203 :: s204 :: s205 :: s206 :: s207 :: s208 :: s209 :: s210 :: s211 :: s212 :: s213 :: s214 :: s215 :: s216 :: s217 :: s218 :: s219 :: s220 :: s221 :: s222 :: s223 :: s224 :: s225 :: s226 :: s227 :: s228 :: s229 :: s230 :: s231 :: s232 :: s233 :: s234 :: s235 :: s236 :: s237 :: s238 :: s239 :: s240 :: s241 :: s242 :: s243 :: s244 :: s245 :: s246 :: s247 :: s248 :: s249 :: s250 :: s251 :: s252 :: s253 :: s254 :: s255 :: s256 :: s257 :: s258 :: s259 :: s260 :: s261 :: s262 :: s263 :: s264 :: s265 :: s266 :: s267 :: s268 :: s269 :: s270 :: s271 :: s272 :: s273 :: s274 :: s275 :: s276 :: s277 :: s278 :: s279 :: s280 :: s281 :: s282 :: s283 :: s284 :: s285 :: s286 :: s287 :: s288 :: s289 :: s290 :: s291 :: s292 :: []), []⟩ wq)) :
    Code.wp Tryd.prog (Code.loop ((Tryd.f17.body.bind (loopAt 9)).getD .skip)) Q0 ⟨List.toArray (s0 :: s1 :: s2 :: s3 :: s4 :: .slice (some ⟨b3, o3, none⟩) P c3 :: .int .i64 (64 * (m : Int)) :: .slice none 0 0 :: .int .i64 0 :: s9 :: s10 :: s11 :: s12 :: s13 :: s14 :: s15 :: s16 :: s17 :: s18 :: s19 :: s20 :: s21 :: s22 :: s23 :: s24 :: s25 :: s26 :: s27 :: s28 :: s29 :: s30 :: s31 :: s32 :: s33 :: s34 :: s35 :: s36 :: s37 :: s38 :: s39 :: s40 :: s41 :: s42 :: s43 :: s44 :: s45 :: s46 :: s47 :: s48 :: s49 :: s50 :: s51 :: s52 :: s53 :: s54 :: s55 :: s56 :: s57 :: s58 :: s59 :: s60 :: s61 :: s62 :: s63 :: s64 :: s65 :: s66 :: s67 :: s68 :: s69 :: s70 :: s71 :: s72 :: s73 :: s74 :: s75 :: s76 :: s77 :: s78 :: s79 :: s80 :: s81 :: s82 :: s83 :: s84 :: s85 :: s86 :: s87 :: s88 :: s89 :: s90 :: s91 :: s92 :: s93 :: s94 :: s95 :: s96 :: s97 :: s98 :: s99 :: s100 :: s101 :: s102 :: s103 :: s104 :: s105 :: s106 :: s107 :: s108 :: s109 :: s110 :: s111 :: s112 :: s113 :: s114 :: s115 :: s116 :: s117 :: s118 :: s119 :: s120 :: s121 :: s122 :: s123 :: s124 :: s125 :: s126 :: s127 :: s128 :: s129 :: s130 :: s131 :: s132 :: s133 :: s134 :: s135 :: s136 :: s137 :: s138 :: s139 :: s140 :: s141 :: s142 :: s143 :: s144 :: s145 :: s146 :: s147 :: s148 :: s149 :: s150 :: s151 :: s152 :: s153 :: s154 :: s155 :: s156 :: s157 :: s158 :: s159 :: s160 :: s161 :: s162 :: s163 :: s164 :: s165 :: s166 :: s167 :: s168 :: s169 :: s170 :: s171 :: s172 :: s173 :: s174 :: s175 :: s176 :: s177 :: s178 :: s179 :: s180 :: s181 :: s182 :: s183 :: s184 :: s185 :: s186 :: s187 :: s188 :: s189 :: s190 :: s191 :: s192 :: s193 :: s194 :: s195 :: s196 :: s197 :: s198 :: s199 :: s200 :: s201 :: s202 :: s203 :: s204 :: s205 :: s206 :: s207 :: s208 :: s209 :: s210 :: s211 :: s212 :: s213 :: s214 :: s215 :: s216 :: s217 :: s218 :: s219 :: s220 :: s221 :: s222 :: s223 :: s224 :: s225 :: s226 :: s227 :: s228 :: s229 :: s230 :: s231 :: s232 :: s233 :: s234 :: s235 :: s236 :: s237 :: s238 :: s239 :: s240 :: s241 :: s242 :: s243 :: s244 :: s245 :: s246 :: s247 :: s248 :: s249 :: s250 :: s251 :: s252 :: s253 :: s254 :: s255 :: s256 :: s257 :: s258 :: s259 :: s260 :: s261 :: s262 :: s263 :: s264 :: s265 :: s266 :: s267 :: s268 :: s269 :: s270 :: s271 :: s272 :: s273 :: s274 :: s275 :: s276 :: s277 :: s278 :: s279 :: s280 :: s281 :: s282 :: s283 :: s284 :: s285 :: s286 :: s287 :: s288 :: s289 :: s290 :: s291 :: s292 :: []), []⟩ w := by
  conv => arg 2; arg 1; whnf
  obtain ⟨j0, ji, jz0, jz1, jz2⟩ := parts_of info32
  go_loopw [7, 8] (fun v i wq => ∃ t : Nat, t ≤ 16 ∧ i = .int .i64 (t : Int) ∧ Hid (Blk w3 B0 Ah h v t (words p (64 * m) t) wq)) (fun _ i _ => 16 - (intOf i).toNat)
  case atStart => exact ⟨0, Nat.zero_le _, rfl, HX⟩
  case round =>
    obtain ⟨t, ht, rfl, HW⟩ := hrel
    by_cases ht16 : t < 16
    · go_wp2_with fail
      go_loopw [9, 10] (fun x d wz => ∃ e : Nat, e ≤ 4 ∧ d = .int .i64 (e : Int) ∧ x = .int .u32 (four p (64 * m + 4 * t) e : Int) ∧ Hid (Blk w3 B0 Ah h u7 t (words p (64 * m) t) wz)) (fun _ d _ => 4 - (intOf d).toNat)
      case atStart => exact ⟨0, Nat.zero_le _, rfl, rfl, HW⟩
      case round =>
        obtain ⟨e, he, rfl, rfl, HW⟩ := hrel
        by_cases he4 : e < 4
        · have hf := four_lt HPB.out (64 * m + 4 * t) e
          have hf2 : 256 ^ e ≤ 256 ^ 3 := Nat.pow_le_pow_right (by omega) (by omega)
          have hjP : 64 * m + 4 * t + e < P := by omega
          obtain ⟨_, _, e1, -, hcell⟩ := (HA.out.below HW.out.bel).cell_at hjP
          injection e1 with e1
          injection e1 with e1 e2
          subst e1 e2
          obtain ⟨y, hy, hyb⟩ := byte_at HPB.out (64 * m + 4 * t + e)
          rw [hy] at hcell
          have hnx : four p (64 * m + 4 * t) (e + 1) = four p (64 * m + 4 * t) e * 256 + y := by simp only [four]; rw [hy]; rfl
          obtain ⟨X, hX⟩ : ∃ X, four p (64 * m + 4 * t) e = X := ⟨_, rfl⟩
          rw [hX] at hf hnx ⊢
          have HNX := Lib.hid hnx
          have hXb : X ≤ 16777215 := by omega
          have i1 : (0 : Int) ≤ 64 * (m : Int) + 4 * (t : Int) + (e : Int) := by omega
          have i2 : 64 * (m : Int) + 4 * (t : Int) + (e : Int) < (P : Int) := by omega
          have i3 : (64 * (m : Int) + 4 * (t : Int) + (e : Int)).toNat = 64 * m + 4 * t + e := by omega
          clear hf hf2 hjP hy hnx hX
          go_wp2_with fail
          go_roundw
          case rel => exact ⟨e + 1, by omega, by go_num, congrArg (Value.int .u32) (by rw [HNX.out]; omega), HW⟩
          case measure => simp [intOf]; omega
        · have he4' : e = 4 := by omega
          subst he4'
          have hf := four_lt HPB.out (64 * m + 4 * t) 4
          have hwd : words p (64 * m) (t + 1) = words p (64 * m) t ++ [BitVec.ofNat 32 (four p (64 * m + 4 * t) 4)] := rfl
          have hwi : (four p (64 * m + 4 * t) 4 : Int) = wi (BitVec.ofNat 32 (four p (64 * m + 4 * t) 4)) := wi_of _ (by omega)
          rw [hwi]
          generalize BitVec.ofNat 32 (four p (64 * m + 4 * t) 4) = a at hwd
          have HWD := Lib.hid hwd
          have hown : wr.ownsRow B0 42 1 u7 t (((words p (64 * m) t).map wi).map (Value.int .u32)) := HW.out.own
          have HOW := Lib.hid hown
          have hsz := HW.out.sz
          clear hf hwd hwi hown
          go_wp2_with (at_builtin; refine push_own rfl (.tmp 56) (.tmp 58) 50 rfl B0 42 j0 .u32 4 Tryd.underlying50 ji jz0 jz1 jz2 _ t ((words p (64 * m) t).map wi) (wi a) rfl HOW.out rfl (by omega) (by omega) hsz ?_; intro v4 w4 hown4 hb4; have HW4 := Lib.hid (Blk.push HW.out hown4 hb4); clear hown4 hb4)
          go_roundw
          case rel => exact ⟨t + 1, by omega, by go_num, by rw [HWD.out]; exact HW4⟩
          case measure => simp [intOf]; omega
    · obtain rfl : t = 16 := by omega
      go_wp2_with fail
      exact HEX.out _ _ _ _ _ _ _ _ _ _ _ _ _ _ _ _ _ _ _ _ _ _ _ _ _ _ _ _ _ _ HW
end Go.Proofs.YtclidocmfdimiaaDoor.Sha
