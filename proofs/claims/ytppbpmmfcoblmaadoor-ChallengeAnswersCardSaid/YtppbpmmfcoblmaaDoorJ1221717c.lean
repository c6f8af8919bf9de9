/- Lemmas that the proof stands on, in build order: ShaS HmcR. -/
import Derived.Test.YtppbpmmfcoblmaaDoorJ100da1b1
import Derived.Test.YtppbpmmfcoblmaaDoorJ11a66102
import Derived.Test.YtppbpmmfcoblmaaDoorJ1ef7bc1
import Derived.Test.YtppbpmmfcoblmaaDoorJ24e72b8
/- Layer 7 (sha): the reference's Sum, as a contract. -/
namespace Go.Proofs.YtppbpmmfcoblmaaDoor.Sha
open Go.RowKit

attribute [local go_sem] wi_xor wi_and wi_or wi_add wi_shr3 wi_shr10 wi_com

set_option maxHeartbeats 12800000 in
set_option maxRecDepth 1000000 in
theorem refsum_any (A : Option Addr) (n c : Nat) (b : List Int) (w : World) (h : Row .u8 w w.heap.size A n b) (hnil : A = none → c = 0) (hn : n ≤ 1099511627776) (hbyt : ∀ x ∈ b, 0 ≤ x ∧ x ≤ 255) :
    Calls Tryd.prog 77 #[.slice A n c] w fun e w' => ∃ v, e = .returned v ∧ w'.ownsRow w.heap.size 5 1 v 32 ((outs (blocks ks hs (pad b) ((pad b).length / 64)) 8).map (Value.int .u8)) ∧ Below w.heap.size w w' := by
  obtain ⟨i0, hi, hz0, hz1, hz2⟩ := parts_of info8
  obtain ⟨j0, ji, jz0, jz1, jz2⟩ := parts_of info32
  have H := Lib.hid h
  have HI := Lib.hid hnil
  have HY := Lib.hid hbyt
  clear h hnil hbyt
  go_enter Tryd.func77, Tryd.ntmps77
  go_wp2_with fail
  refine (constants_any w).mono ?_
  rintro e1 w1 ⟨v1, rfl, hown1, hb1⟩
  have HO1 := Lib.hid hown1
  have HB1 := Lib.hid hb1
  clear hown1 hb1
  go_wp2_with fail
  refine (begin_any w1).mono ?_
  rintro e2 w2 ⟨v2, rfl, hown2, hb2⟩
  have HO2 := Lib.hid hown2
  have HB2 := Lib.hid hb2
  clear hown2 hb2
  go_wp2_with fail
  refine (padded_any A n c b w2 (((H.out.below HB1.out).more HB1.out.size |>.below HB2.out).more HB2.out.size) HI.out hn).mono ?_
  rintro e3 w3 ⟨v3, rfl, hown3, hb3⟩
  have HO3 := Lib.hid hown3
  have HB3 := Lib.hid hb3
  clear hown3 hb3
  obtain ⟨A1, c1, rfl, -, -⟩ := own_slice HO1.out
  obtain ⟨A2, c2, rfl, -, hnil2⟩ := own_slice HO2.out
  obtain ⟨A3, c3, rfl, -, -⟩ := own_slice HO3.out
  have HK : Hid (WRow w3 w3.heap.size A1 64 ks) := (((Row.of_own HO1.out).below HB2.out).more HB2.out.size |>.below HB3.out).more HB3.out.size
  have HH : Hid (WRow w3 w3.heap.size A2 8 hs) := ((Row.of_own HO2.out).below HB3.out).more HB3.out.size
  have HA : Hid (Row .u8 w3 w3.heap.size A3 (pad b).length (pad b)) := Row.of_own HO3.out
  have HBW : Hid (Below w.heap.size w w3) := HB1.out.trans ((HB2.out.trans (HB3.out.mono HB2.out.size)).mono HB1.out.size)
  have HN2 := Lib.hid hnil2
  have hp64 := pad_64 b
  have hpl := pad_len b
  have hz := zeros_le b.length
  have hbl := H.out.len
  have HPB := Lib.hid (pad_byt HY.out)
  clear HO1 HO2 HO3 HB1 HB2 HB3 hnil2 H HI HY
  obtain ⟨p, hp⟩ : ∃ p, pad b = p := ⟨_, rfl⟩
  rw [hp] at HA hp64 hpl HPB ⊢
  have HPP := Lib.hid hp
  clear hp
  obtain ⟨P, hP⟩ : ∃ P, p.length = P := ⟨_, rfl⟩
  rw [hP] at HA hp64 hpl ⊢
  have hPb : P ≤ 1099511627900 := by omega
  obtain ⟨M, hM⟩ : ∃ M, P / 64 = M := ⟨_, rfl⟩
  have hPM : P = 64 * M := by omega
  obtain ⟨b3, o3, rfl, hb3, -⟩ := HA.out.cell_at (show 0 < P by omega)
  obtain ⟨b1, o1, rfl, hb1, -⟩ := Row.cell_at HK.out (show 0 < 64 by omega)
  have HMM := Lib.hid hM
  have HPM := Lib.hid hPM
  have HPL := Lib.hid hP
  clear hM hp64 hpl hz hbl hP hPM
  go_wp2_with fail
  go_loopw [4, 6] (fun vh i wr => ∃ (m : Nat) (Ah : Option Addr) (ch : Nat), m ≤ M ∧ i = .int .i64 (64 * (m : Int)) ∧ vh = .slice Ah 8 ch ∧ (Ah = none → ch = 0) ∧ Hid (WRow wr wr.heap.size Ah 8 (blocks ks hs p m)) ∧ Hid (Below w3.heap.size w3 wr)) (fun _ i _ => P - (intOf i).toNat)
  case atStart => exact ⟨0, A2, c2, Nat.zero_le _, rfl, rfl, HN2.out, HH, Below.refl _ _⟩
  case round =>
    obtain ⟨m, Ah, ch, hm, rfl, rfl, hnilh, HHR, HB⟩ := hrel
    by_cases hlt : m < M
    · have hcast : 64 * (m : Int) < (P : Int) := by have := HPM.out; omega
      have h64 : 64 * m + 64 ≤ P := by have := HPM.out; omega
      obtain ⟨B0, hB0⟩ : ∃ B0, wr.heap.size = B0 := ⟨_, rfl⟩
      have HX : Hid (Blk w3 B0 Ah (blocks ks hs p m) (.slice none 0 0) 0 (words p (64 * m) 0) wr) := ⟨World.ownsRow_nil _ _ _ _, by rw [← hB0]; exact HHR.out, HB.out, by omega, by rw [← hB0]; exact HB.out.size⟩
      clear HHR HB hB0
      go_wp2_with fail
      refine loop_words HA HPB h64 hPb HX ?_
      refine Lib.hid ?_
      intro x7 x8 x9 x10 x35 x36 x37 x38 x39 x40 x41 x42 x43 x44 x45 x46 x47 x48 x49 x50 x51 x52 x53 x54 x55 x56 x57 x58 x59 wq HW
      have HW0 : Hid ((words p (64 * m) 16).length = 16) := words_len _ _ _
      have HS : Hid (Blk w3 B0 Ah (blocks ks hs p m) x7 16 (sched (16 - 16) (words p (64 * m) 16)) wq) := HW
      clear HW HX
      go_wp2_with fail
      refine loop_sched HW0 HS ?_
      refine Lib.hid ?_
      clear HS
      intro x7 x11 x12 x13 x60 x61 x62 x63 x64 x65 x66 x67 x68 x69 x70 x71 x72 x73 x74 x75 x76 x77 x78 x79 x80 x81 x82 x83 x84 x85 x86 x87 x88 x89 x90 x91 x92 x93 x94 x95 x96 x97 x98 x99 x100 x101 x102 x103 x104 x105 x106 x107 x108 x109 x110 x111 x112 x113 x114 x115 x116 x117 x118 x119 x120 x121 wr HS
      have HNH := Lib.hid hnilh
      have HV0 : Hid (wr.ownsRow wr.heap.size 101 1 (.slice none 0 0) 0 (([] : List Int).map (Value.int .u32))) := World.ownsRow_nil _ _ _ _
      have hsz := HS.out.sz
      clear hnilh
      go_wp2_with (at_builtin; refine cat_own rfl (.tmp 122) (.tmp 123) 132 rfl wr.heap.size 101 j0 .u32 4 Tryd.underlying132 ji jz0 jz1 jz2 _ 0 [] rfl HV0.out B0 Ah 8 ch ((blocks ks hs p m).map wi) rfl HNH.out HS.out.row (by omega) (by omega) (Nat.le_refl _) ?_; intro v4 w4 hown4 hb4; have HOW4 := Lib.hid hown4; have HB4 := Lib.hid hb4; clear hown4 hb4)
      obtain ⟨A4, c4, rfl, -, -⟩ := own_slice HOW4.out
      obtain ⟨g4, rfl, -⟩ := own_at HOW4.out (by omega)
      have HS4 := Lib.hid (HS.out.below HB4.out)
      have HV4 : Hid (WRow w4 w4.heap.size (some ⟨g4, 0, none⟩) 8 (rounds ks (sched 48 (words p (64 * m) 16)) (blocks ks hs p m) 0)) := by
        have := Row.of_own HOW4.out
        exact this
      clear HOW4 HB4 HV0 HS hsz
      refine loop_rounds HK HV4 HS4 ?_
      refine Lib.hid ?_
      clear HV4 HS4
      rintro x14 x15 x16 x17 x18 x19 x20 x125 x126 x127 x128 x129 x130 x131 x132 x133 x134 x135 x136 x137 x138 x139 x140 x141 x142 x143 x144 x145 x146 x147 x148 x149 x150 x151 x152 x153 x154 x155 x156 x157 x158 x159 x160 x161 x162 x163 x164 x165 x166 x167 x168 x169 x170 x171 x172 x173 x174 x175 x176 x177 x178 x179 x180 x181 x182 x183 x184 x185 x186 x187 x188 x189 x190 x191 x192 x193 x194 x195 x196 x197 x198 x199 x200 x201 x202 x203 x204 x205 x206 x207 x208 x209 x210 x211 x212 x213 x214 x215 x216 x217 x218 x219 x220 x221 x222 x223 x224 x225 x226 x227 x228 x229 x230 x231 x232 x233 x234 x235 x236 x237 x238 x239 x240 x241 wr ⟨bv, ov, cv, rfl, HV, HS⟩
      obtain ⟨bh, oh, rfl, hbh, -⟩ := HS.out.row.at (show 0 < 8 by omega)
      obtain ⟨B1, hB1⟩ : ∃ B1, wr.heap.size = B1 := ⟨_, rfl⟩
      have HBL : Hid (blocks ks hs p (m + 1) = adds (blocks ks hs p m) (rounds ks (sched 48 (words p (64 * m) 16)) (blocks ks hs p m) 64) 8) := rfl
      have HA0 : Hid (Sm w3 B1 bh oh (blocks ks hs p m) bv ov (rounds ks (sched 48 (words p (64 * m) 16)) (blocks ks hs p m) 64) (.slice none 0 0) 0 wr) :=
        ⟨World.ownsRow_nil _ _ _ _, HS.out.row.more (by have := HS.out.sz; omega), by rw [← hB1]; exact HV.out, HS.out.bel, by omega, by have := HS.out.base; have := HS.out.sz; omega⟩
      generalize rounds ks (sched 48 (words p (64 * m) 16)) (blocks ks hs p m) 64 = R at HBL HA0
      clear HV HS hB1
      go_wp2_with fail
      refine loop_adds HA0 ?_
      refine Lib.hid ?_
      clear HA0
      intro x21 x22 x242 x243 x244 x245 x246 x247 x248 x249 x250 x251 x252 x253 x254 x255 x256 x257 wr HA1
      obtain ⟨A9, c9, rfl, -, hnil9⟩ := own_slice HA1.out.own
      have HR9 : Hid (WRow wr wr.heap.size A9 8 (blocks ks hs p (m + 1))) := by rw [HBL.out]; exact Row.of_own HA1.out.own
      have HN9 := Lib.hid hnil9
      have HB9 := Lib.hid HA1.out.bel
      clear HA1 hnil9
      go_wp2
      go_roundw
      case rel => first | exact ⟨m + 1, A9, c9, by omega, congrArg (Value.int .i64) (by omega), rfl, HN9.out, HR9, HB9⟩ | ((repeat apply Exists.intro); exact ⟨⟨m + 1, A9, c9, by omega, congrArg (Value.int .i64) (by omega), rfl, HN9.out, HR9, HB9⟩, rfl⟩)
      case measure => simp [intOf]; omega
    · have hmM : m = M := by omega
      have hcast : ¬ 64 * (m : Int) < (P : Int) := by have := HPM.out; omega
      obtain ⟨bh, oh, rfl, -, -⟩ := HHR.out.at (show 0 < 8 by omega)
      obtain ⟨B1, hB1⟩ : ∃ B1, wr.heap.size = B1 := ⟨_, rfl⟩
      have HO0 : Hid (Ou w3 B1 bh oh (blocks ks hs p m) (.slice none 0 0) 0 wr) := ⟨World.ownsRow_nil _ _ _ _, by rw [← hB1]; exact HHR.out, HB.out, by omega, by rw [← hB1]; exact HB.out.size⟩
      have HMP : Hid (m = P / 64) := by unfold Hid; rw [HMM.out]; exact hmM
      clear HHR HB hB1 hmM
      go_wp2_with fail
      go_loopw [23, 24] (fun v i wq => ∃ t : Nat, t ≤ 8 ∧ i = .int .i64 (t : Int) ∧ Hid (Ou w3 B1 bh oh (blocks ks hs p m) v t wq)) (fun _ i _ => 8 - (intOf i).toNat)
      case atStart => exact ⟨0, Nat.zero_le _, rfl, HO0⟩
      case round =>
        obtain ⟨t, ht, rfl, HO1⟩ := hrel
        by_cases ht8 : t < 8
        · obtain ⟨_, _, e1, hbh1, kh⟩ := HO1.out.rh.at ht8
          injection e1 with e1
          injection e1 with e1 e2
          subst e1 e2
          obtain ⟨a, ha⟩ : ∃ a, wat (blocks ks hs p m) t = a := ⟨_, rfl⟩
          rw [ha] at kh
          have hab := wi_bd a
          have HD1 := Lib.hid (HO1.out.drew (q := 1))
          have hsz : B1 ≤ wr.drew.heap.size := HD1.out.sz
          have hown : wr.drew.ownsRow B1 5 1 u23 (4 * t) ((outs (blocks ks hs p m) t).map (Value.int .u8)) := HD1.out.own
          have HOW := Lib.hid hown
          have KD : Hid (wr.drew.cell? ⟨bh, oh + t, none⟩ = some (.int .u32 (wi a))) := kh
          have KK : Hid (∀ w', Below B1 wr.drew w' → w'.cell? ⟨bh, oh + t, none⟩ = some (.int .u32 (wi a))) := fun w' hw => (hw.cell (p := ⟨bh, oh + t, none⟩) hbh1).trans kh
          have KA : Hid (∀ o, Below B1 wr.drew (wr.drew.alloc o)) := fun o => (Below.refl B1 wr.drew).alloc hsz o
          have HAA := Lib.hid ha
          clear hown hbh1 ha
          go_wp2_with fail
          go_region_held3 (fun wz => wz.cell? ⟨bh, oh + t, none⟩ = some (.int .u32 (wi a))) (first | exact m0 | exact KD.out | exact KK.out _ (KA.out _)) (first
            | (refine step_lit rfl (.tmp 263) (.tmp 290) 25 rfl B1 i0 1 Tryd.underlying25 hi hz0 hz1 hz2 _ (4 * t) (outs (blocks ks hs p m) t) rfl HOW.out 4 [_, _, _, _] rfl rfl rfl (by omega) (by omega) hsz ?_; intro v4 w4 hown4 hb4; have m0 := KK.out _ hb4; have HOW4 := Lib.hid hown4; have HB4 := Lib.hid hb4; clear hown4 hb4))
          rw [out4_eq, ← HAA.out] at HOW4
          have HO2 := Lib.hid (Ou.push HD1.out HOW4.out HB4.out)
          go_wp2
          go_roundw
          case rel => first | exact ⟨t + 1, by omega, by go_num, HO2⟩ | ((repeat apply Exists.intro); exact ⟨⟨t + 1, by omega, by go_num, HO2⟩, rfl⟩)
          case measure => simp [intOf]; omega
        · obtain rfl : t = 8 := by omega
          go_wp2
          go_ret
          refine ⟨u23, rfl, ?_, HBW.out.trans (HO1.out.bel.mono HBW.out.size)⟩
          rw [HPP.out, HPL.out, ← HMP.out]
          exact own_low HO1.out.own (Nat.le_trans HBW.out.size HO1.out.base)
end Go.Proofs.YtppbpmmfcoblmaaDoor.Sha

/- Layer 8 (hmac): the reference's Block, Tag and Derive, as contracts. -/
namespace Go.Proofs.YtppbpmmfcoblmaaDoor.Hmc
open Go.RowKit Sha

set_option maxHeartbeats 1600000 in
set_option maxRecDepth 100000 in
theorem refblock_any (A : Option Addr) (n c : Nat) (k : List Int) (m : Int) (w : World) (h : Row .u8 w w.heap.size A n k) (hnil : A = none → c = 0) (hn : n ≤ 1099511627776) (hk : ∀ x ∈ k, 0 ≤ x ∧ x ≤ 255) (hm : 0 ≤ m ∧ m ≤ 255) :
    Calls Tryd.prog 53 #[.slice A n c, .int .u8 m] w fun e w' => ∃ v, e = .returned v ∧ w'.ownsRow w.heap.size 5 1 v 64 ((blk k m).map (Value.int .u8)) ∧ Below w.heap.size w w' := by
  obtain ⟨i0, hi, hz0, hz1, hz2⟩ := parts_of info8
  have H := Lib.hid h
  have HK := Lib.hid hk
  have HM := Lib.hid hm
  have HN := Lib.hid hnil
  have hl := h.len
  have HL := Lib.hid hl
  clear h hk hm hnil hl
  -- the loop, over the key as it is used
  by_cases hb : 64 < n
  · go_enter Tryd.func53, Tryd.ntmps53
    go_wp2_with fail
    refine (refsum_any A n c k w H.out HN.out hn HK.out).mono ?_
    rintro e1 w1 ⟨v1, rfl, hown1, hb1⟩
    obtain ⟨A1, c1, rfl, -, -⟩ := own_slice hown1
    have hky : ky k = sum256 k := by unfold ky; rw [if_pos (by rw [HL.out]; exact hb)]
    have HR1 : Hid (Row .u8 w1 w1.heap.size A1 32 (ky k)) := by rw [hky]; exact Row.of_own hown1
    have HB1 := Lib.hid hb1
    clear hown1 hb1 hky hb
    obtain ⟨K, hK⟩ : ∃ K, ky k = K := ⟨_, rfl⟩
    have HKB : Hid (∀ x ∈ K, 0 ≤ x ∧ x ≤ 255) := by rw [← hK]; exact ky_byt HK.out
    have hKL : 32 ≤ 64 := by
      have h1 := HR1.out.len
      have h2 := ky_len k
      omega
    rw [hK] at HR1
    have HKE := Lib.hid hK
    clear hK
    have HO0 : Hid (w1.ownsRow w1.heap.size 5 1 (.slice none 0 0) 0 ((pre K m 0).map (Value.int .u8))) := World.ownsRow_nil _ _ _ _
    have HB0 : Hid (Below w1.heap.size w1 w1) := Below.refl _ _
    go_wp2_with fail
    go_loopw [5, 6] (fun v i wr => ∃ j : Nat, j ≤ 64 ∧ i = .int .i64 (j : Int) ∧ Hid (wr.ownsRow w1.heap.size 5 1 v j ((pre K m j).map (Value.int .u8))) ∧ Hid (Below w1.heap.size w1 wr)) (fun _ i _ => 64 - (intOf i).toNat)
    case atStart => exact ⟨0, Nat.zero_le _, rfl, HO0, HB0⟩
    case round =>
      obtain ⟨j, hj, rfl, HO, HB⟩ := hrel
      by_cases hlt : j < 64
      · have hx := getD_byt HKB.out j
        have hbx := xr_bits _ _ hx HM.out
        by_cases hjn : j < 32
        · obtain ⟨bb, oo, rfl, hbb, kc⟩ := (HR1.out.below HB.out).cell_at hjn
          have HP : Hid (pre K m (j + 1) = pre K m j ++ [xr (K.getD j 0) m]) := rfl
          generalize xr (K.getD j 0) m = y at hbx HP
          generalize K.getD j 0 = x at kc hbx hx
          clear hx
          go_wp2_with (at_builtin; refine push_own rfl (.tmp 20) (.tmp 27) 25 rfl w1.heap.size 5 i0 .u8 1 Tryd.underlying25 hi hz0 hz1 hz2 _ j (pre K m j) y rfl HO.out rfl (by omega) (by omega) HB.out.size ?_; intro v3 w3 hown3 hb3; have HO3 := Lib.hid hown3; have HB3 := Lib.hid (HB.out.trans hb3); clear hown3 hb3)
          go_roundw
          case rel => exact ⟨j + 1, by omega, by go_num, by rw [HP.out]; exact HO3, HB3⟩
          case measure => simp [intOf]; omega
        · have hz : K.getD j 0 = 0 := by
            have := HR1.out.len
            simp [List.getD, List.getElem?_eq_none (by omega : K.length ≤ j)]
          have HP : Hid (pre K m (j + 1) = pre K m j ++ [m]) := by
            show pre K m j ++ [xr (K.getD j 0) m] = _
            rw [hz, xr_zero HM.out.1]
          clear hbx hx hz
          go_wp2_with (at_builtin; refine push_own rfl (.tmp 29) (.tmp 31) 25 rfl w1.heap.size 5 i0 .u8 1 Tryd.underlying25 hi hz0 hz1 hz2 _ j (pre K m j) m rfl HO.out rfl (by omega) (by omega) HB.out.size ?_; intro v3 w3 hown3 hb3; have HO3 := Lib.hid hown3; have HB3 := Lib.hid (HB.out.trans hb3); clear hown3 hb3)
          go_roundw
          case rel => exact ⟨j + 1, by omega, by go_num, by rw [HP.out]; exact HO3, HB3⟩
          case measure => simp [intOf]; omega
      · obtain rfl : j = 64 := by omega
        go_wp2
        go_ret
        have e : blk k m = pre K m 64 := by unfold blk; rw [HKE.out]
        rw [e]
        exact ⟨_, rfl, own_low HO.out HB1.out.size, HB1.out.trans (HB.out.mono HB1.out.size)⟩
  · go_enter Tryd.func53, Tryd.ntmps53
    have hky : ky k = k := by unfold ky; rw [if_neg (by rw [HL.out]; exact hb)]
    have HR1 : Hid (Row .u8 w w.heap.size A n (ky k)) := by rw [hky]; exact H.out
    clear hky
    obtain ⟨K, hK⟩ : ∃ K, ky k = K := ⟨_, rfl⟩
    have HKB : Hid (∀ x ∈ K, 0 ≤ x ∧ x ≤ 255) := by rw [← hK]; exact ky_byt HK.out
    have hKL : n ≤ 64 := by
      have h1 := HR1.out.len
      have h2 := ky_len k
      omega
    rw [hK] at HR1
    have HKE := Lib.hid hK
    clear hK
    have HO0 : Hid (w.ownsRow w.heap.size 5 1 (.slice none 0 0) 0 ((pre K m 0).map (Value.int .u8))) := World.ownsRow_nil _ _ _ _
    have HB0 : Hid (Below w.heap.size w w) := Below.refl _ _
    go_wp2_with fail
    go_loopw [5, 6] (fun v i wr => ∃ j : Nat, j ≤ 64 ∧ i = .int .i64 (j : Int) ∧ Hid (wr.ownsRow w.heap.size 5 1 v j ((pre K m j).map (Value.int .u8))) ∧ Hid (Below w.heap.size w wr)) (fun _ i _ => 64 - (intOf i).toNat)
    case atStart => exact ⟨0, Nat.zero_le _, rfl, HO0, HB0⟩
    case round =>
      obtain ⟨j, hj, rfl, HO, HB⟩ := hrel
      by_cases hlt : j < 64
      · have hx := getD_byt HKB.out j
        have hbx := xr_bits _ _ hx HM.out
        by_cases hjn : j < n
        · obtain ⟨bb, oo, rfl, hbb, kc⟩ := (HR1.out.below HB.out).cell_at hjn
          have HP : Hid (pre K m (j + 1) = pre K m j ++ [xr (K.getD j 0) m]) := rfl
          generalize xr (K.getD j 0) m = y at hbx HP
          generalize K.getD j 0 = x at kc hbx hx
          clear hx
          go_wp2_with (at_builtin; refine push_own rfl (.tmp 20) (.tmp 27) 25 rfl w.heap.size 5 i0 .u8 1 Tryd.underlying25 hi hz0 hz1 hz2 _ j (pre K m j) y rfl HO.out rfl (by omega) (by omega) HB.out.size ?_; intro v3 w3 hown3 hb3; have HO3 := Lib.hid hown3; have HB3 := Lib.hid (HB.out.trans hb3); clear hown3 hb3)
          go_roundw
          case rel => exact ⟨j + 1, by omega, by go_num, by rw [HP.out]; exact HO3, HB3⟩
          case measure => simp [intOf]; omega
        · have hz : K.getD j 0 = 0 := by
            have := HR1.out.len
            simp [List.getD, List.getElem?_eq_none (by omega : K.length ≤ j)]
          have HP : Hid (pre K m (j + 1) = pre K m j ++ [m]) := by
            show pre K m j ++ [xr (K.getD j 0) m] = _
            rw [hz, xr_zero HM.out.1]
          clear hbx hx hz
          go_wp2_with (at_builtin; refine push_own rfl (.tmp 29) (.tmp 31) 25 rfl w.heap.size 5 i0 .u8 1 Tryd.underlying25 hi hz0 hz1 hz2 _ j (pre K m j) m rfl HO.out rfl (by omega) (by omega) HB.out.size ?_; intro v3 w3 hown3 hb3; have HO3 := Lib.hid hown3; have HB3 := Lib.hid (HB.out.trans hb3); clear hown3 hb3)
          go_roundw
          case rel => exact ⟨j + 1, by omega, by go_num, by rw [HP.out]; exact HO3, HB3⟩
          case measure => simp [intOf]; omega
      · obtain rfl : j = 64 := by omega
        go_wp2
        go_ret
        have e : blk k m = pre K m 64 := by unfold blk; rw [HKE.out]
        rw [e]
        exact ⟨_, rfl, HO.out, HB.out⟩

set_option maxHeartbeats 800000 in
set_option maxRecDepth 100000 in
theorem reftag_any (A A' : Option Addr) (n c n' c' : Nat) (k b : List Int) (w : World) (h : Row .u8 w w.heap.size A n k) (h' : Row .u8 w w.heap.size A' n' b) (hnil : A = none → c = 0) (hnil' : A' = none → c' = 0) (hn : n ≤ 1099511627776) (hn' : n' ≤ 549755813888) (hk : ∀ x ∈ k, 0 ≤ x ∧ x ≤ 255) (hb : ∀ x ∈ b, 0 ≤ x ∧ x ≤ 255) :
    Calls Tryd.prog 59 #[.slice A n c, .slice A' n' c'] w fun e w' => ∃ v, e = .returned v ∧ w'.ownsRow w.heap.size 5 1 v 32 ((mac k b).map (Value.int .u8)) ∧ Below w.heap.size w w' := by
  obtain ⟨i0, hi, hz0, hz1, hz2⟩ := parts_of info8
  have H := Lib.hid h
  have H' := Lib.hid h'
  have HK := Lib.hid hk
  have HB := Lib.hid hb
  have HN := Lib.hid hnil
  have HN' := Lib.hid hnil'
  clear h h' hk hb hnil hnil'
  go_enter Tryd.func59, Tryd.ntmps59
  go_wp2_with fail
  refine (refblock_any A n c k 54 w H.out HN.out hn HK.out (by omega)).mono ?_
  rintro e1 w1 ⟨v1, rfl, hown1, hb1⟩
  have HO1 := Lib.hid hown1
  have HB1 := Lib.hid hb1
  clear hown1 hb1
  go_wp2_with (at_builtin; refine cat_own rfl (.tmp 7) (.tmp 8) 25 rfl w.heap.size 5 i0 .u8 1 Tryd.underlying25 hi hz0 hz1 hz2 _ 64 (blk k 54) rfl HO1.out w.heap.size A' n' c' b rfl HN'.out (H'.out.below HB1.out) (by omega) (by omega) HB1.out.size ?_; intro v2 w2 hown2 hb2; have HO2 := Lib.hid hown2; have HB2 := Lib.hid (HB1.out.trans hb2); clear hown2 hb2)
  obtain ⟨A2, c2, rfl, -, hnil2⟩ := own_slice HO2.out
  have HN2 := Lib.hid hnil2
  have HIN : Hid (∀ x ∈ blk k 54 ++ b, 0 ≤ x ∧ x ≤ 255) := fun x hx => by
    rcases List.mem_append.1 hx with hx | hx
    · exact blk_byt HK.out (by omega) x hx
    · exact HB.out x hx
  clear hnil2
  refine (refsum_any A2 (64 + n') c2 (blk k 54 ++ b) _ (Row.of_own HO2.out) HN2.out (by omega) HIN.out).mono ?_
  rintro e3 w3 ⟨v3, rfl, hown3, hb3⟩
  obtain ⟨A3, c3, rfl, -, hnil3⟩ := own_slice hown3
  have HO3 := Lib.hid hown3
  have HN3 := Lib.hid hnil3
  have HB3 := Lib.hid (HB2.out.trans (hb3.mono HB2.out.size))
  clear hown3 hb3 hnil3 HO1 HO2
  go_wp2_with fail
  refine (refblock_any A n c k 92 w3 ((H.out.below HB3.out).more HB3.out.size) HN.out hn HK.out (by omega)).mono ?_
  rintro e4 w4 ⟨v4, rfl, hown4, hb4⟩
  have HO4 := Lib.hid hown4
  have HR3 := Lib.hid ((Row.of_own HO3.out).below hb4)
  have HB4 := Lib.hid (HB3.out.trans (hb4.mono HB3.out.size))
  have HS4 := Lib.hid hb4.size
  clear hown4 hb4
  go_wp2_with (at_builtin; refine cat_own rfl (.tmp 12) (.tmp 13) 25 rfl w3.heap.size 5 i0 .u8 1 Tryd.underlying25 hi hz0 hz1 hz2 _ 64 (blk k 92) rfl HO4.out w3.heap.size A3 32 c3 (sum256 (blk k 54 ++ b)) rfl HN3.out HR3.out (by omega) (by omega) HS4.out ?_; intro v5 w5 hown5 hb5; have HO5 := Lib.hid hown5; have HB5 := Lib.hid (HB4.out.trans (hb5.mono HB3.out.size)); clear hown5 hb5)
  obtain ⟨A5, c5, rfl, -, hnil5⟩ := own_slice HO5.out
  have HN5 := Lib.hid hnil5
  have HOUT : Hid (∀ x ∈ blk k 92 ++ sum256 (blk k 54 ++ b), 0 ≤ x ∧ x ≤ 255) := fun x hx => by
    rcases List.mem_append.1 hx with hx | hx
    · exact blk_byt HK.out (by omega) x hx
    · exact sum256_byt _ x hx
  clear hnil5
  refine (refsum_any A5 (64 + 32) c5 (blk k 92 ++ sum256 (blk k 54 ++ b)) _ (Row.of_own HO5.out) HN5.out (by omega) HOUT.out).mono ?_
  rintro e6 w6 ⟨v6, rfl, hown6, hb6⟩
  have HO6 := Lib.hid hown6
  have HB6 := Lib.hid (HB5.out.trans (hb6.mono HB5.out.size))
  clear hown6 hb6
  go_wp2
  go_ret
  exact ⟨_, rfl, own_low HO6.out HB5.out.size, HB6.out⟩
end Go.Proofs.YtppbpmmfcoblmaaDoor.Hmc
