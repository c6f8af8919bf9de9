/- Layer 8 (hmac): the reference's Block, Tag and Derive, as contracts. -/
import Derived.Test.YtclidocmfdimiaaDoorHmcM
import Derived.Test.YtclidocmfdimiaaDoorShaS
import Derived.Test.YtclidocmfdimiaaDoorOwn
import Derived.Test.YtclidocmfdimiaaDoorSame
namespace Go.Proofs.YtclidocmfdimiaaDoor.Hmc
open Go.RowKit Sha

set_option maxHeartbeats 1600000 in
set_option maxRecDepth 100000 in
theorem refblock_any (A : Option Addr) (n c : Nat) (k : List Int) (m : Int) (w : World) (h : Row .u8 w w.heap.size A n k) (hnil : A = none → c = 0) (hn : n ≤ 1099511627776) (hk : ∀ x ∈ k, 0 ≤ x ∧ x ≤ 255) (hm : 0 ≤ m ∧ m ≤ 255) :
    Calls Tryd.prog 18 #[.slice A n c, .int .u8 m] w fun e w' => ∃ v, e = .returned v ∧ w'.ownsRow w.heap.size 5 1 v 64 ((blk k m).map (Value.int .u8)) ∧ Below w.heap.size w w' := by
  obtain ⟨i0, hi, hz0, hz1, hz2⟩ := parts_of info8
  have H := Lib.hid h
  have HK := Lib.hid hk
  have HM := Lib.hid hm
  have HN := Lib.hid hnil
  have hl := h.len
  have HL := Lib.hid hl
  clear h hk hm hnil hl
  -- the loop, over the key as it is used
  by_cases hb : 64 < n
  · go_enter Tryd.func18, Tryd.ntmps18
    go_wp2_with fail
    refine (refsum_any A n c k w H.out HN.out hn HK.out).mono ?_
    rintro e1 w1 ⟨v1, rfl, hown1, hb1⟩
    obtain ⟨A1, c1, rfl, -, -⟩ := own_slice hown1
    have hky : ky k = sum256 k := by unfold ky; rw [if_pos (by rw [HL.out]; exact hb)]
    have HR1 : Hid (Row .u8 w1 w1.heap.size A1 32 (ky k)) := by rw [hky]; exact Row.of_own hown1
    have HB1 := Lib.hid hb1
    clear hown1 hb1 hky hb
    obtain ⟨K, hK⟩ : ∃ K, ky k = K := ⟨_, rfl⟩
    have HKB : Hid (∀ x ∈ K, 0 ≤ x ∧ x ≤ 255) := by rw [← hK]; exact ky_byt HK.out
    have hKL : 32 ≤ 64 := by
      have h1 := HR1.out.len
      have h2 := ky_len k
      omega
    rw [hK] at HR1
    have HKE := Lib.hid hK
    clear hK
    have HO0 : Hid (w1.ownsRow w1.heap.size 5 1 (.slice none 0 0) 0 ((pre K m 0).map (Value.int .u8))) := World.ownsRow_nil _ _ _ _
    have HB0 : Hid (Below w1.heap.size w1 w1) := Below.refl _ _
    go_wp2_with fail
    go_loopw [5, 6] (fun v i wr => ∃ j : Nat, j ≤ 64 ∧ i = .int .i64 (j : Int) ∧ Hid (wr.ownsRow w1.heap.size 5 1 v j ((pre K m j).map (Value.int .u8))) ∧ Hid (Below w1.heap.size w1 wr)) (fun _ i _ => 64 - (intOf i).toNat)
    case atStart => exact ⟨0, Nat.zero_le _, rfl, HO0, HB0⟩
    case round =>
      obtain ⟨j, hj, rfl, HO, HB⟩ := hrel
      by_cases hlt : j < 64
      · have hx := getD_byt HKB.out j
        have hbx := xr_bits _ _ hx HM.out
        by_cases hjn : j < 32
        · obtain ⟨bb, oo, rfl, hbb, kc⟩ := (HR1.out.below HB.out).cell_at hjn
          have HP : Hid (pre K m (j + 1) = pre K m j ++ [xr (K.getD j 0) m]) := rfl
          generalize xr (K.getD j 0) m = y at hbx HP
          generalize K.getD j 0 = x at kc hbx hx
          clear hx
          go_wp2_with (at_builtin; refine push_own rfl (.tmp 20) (.tmp 27) 22 rfl w1.heap.size 5 i0 .u8 1 Tryd.underlying22 hi hz0 hz1 hz2 _ j (pre K m j) y rfl HO.out rfl (by omega) (by omega) HB.out.size ?_; intro v3 w3 hown3 hb3; have HO3 := Lib.hid hown3; have HB3 := Lib.hid (HB.out.trans hb3); clear hown3 hb3)
          go_roundw
          case rel => exact ⟨j + 1, by omega, by go_num, by rw [HP.out]; exact HO3, HB3⟩
          case measure => simp [intOf]; omega
        · have hz : K.getD j 0 = 0 := by
            have := HR1.out.len
            simp [List.getD, List.getElem?_eq_none (by omega : K.length ≤ j)]
          have HP : Hid (pre K m (j + 1) = pre K m j ++ [m]) := by
            show pre K m j ++ [xr (K.getD j 0) m] = _
            rw [hz, xr_zero HM.out.1]
          clear hbx hx hz
          go_wp2_with (at_builtin; refine push_own rfl (.tmp 29) (.tmp 31) 22 rfl w1.heap.size 5 i0 .u8 1 Tryd.underlying22 hi hz0 hz1 hz2 _ j (pre K m j) m rfl HO.out rfl (by omega) (by omega) HB.out.size ?_; intro v3 w3 hown3 hb3; have HO3 := Lib.hid hown3; have HB3 := Lib.hid (HB.out.trans hb3); clear hown3 hb3)
          go_roundw
          case rel => exact ⟨j + 1, by omega, by go_num, by rw [HP.out]; exact HO3, HB3⟩
          case measure => simp [intOf]; omega
      · obtain rfl : j = 64 := by omega
        go_wp2
        go_ret
        have e : blk k m = pre K m 64 := by unfold blk; rw [HKE.out]
        rw [e]
        exact ⟨_, rfl, own_low HO.out HB1.out.size, HB1.out.trans (HB.out.mono HB1.out.size)⟩
  · go_enter Tryd.func18, Tryd.ntmps18
    have hky : ky k = k := by unfold ky; rw [if_neg (by rw [HL.out]; exact hb)]
    have HR1 : Hid (Row .u8 w w.heap.size A n (ky k)) := by rw [hky]; exact H.out
    clear hky
    obtain ⟨K, hK⟩ : ∃ K, ky k = K := ⟨_, rfl⟩
    have HKB : Hid (∀ x ∈ K, 0 ≤ x ∧ x ≤ 255) := by rw [← hK]; exact ky_byt HK.out
    have hKL : n ≤ 64 := by
      have h1 := HR1.out.len
      have h2 := ky_len k
      omega
    rw [hK] at HR1
    have HKE := Lib.hid hK
    clear hK
    have HO0 : Hid (w.ownsRow w.heap.size 5 1 (.slice none 0 0) 0 ((pre K m 0).map (Value.int .u8))) := World.ownsRow_nil _ _ _ _
    have HB0 : Hid (Below w.heap.size w w) := Below.refl _ _
    go_wp2_with fail
    go_loopw [5, 6] (fun v i wr => ∃ j : Nat, j ≤ 64 ∧ i = .int .i64 (j : Int) ∧ Hid (wr.ownsRow w.heap.size 5 1 v j ((pre K m j).map (Value.int .u8))) ∧ Hid (Below w.heap.size w wr)) (fun _ i _ => 64 - (intOf i).toNat)
    case atStart => exact ⟨0, Nat.zero_le _, rfl, HO0, HB0⟩
    case round =>
      obtain ⟨j, hj, rfl, HO, HB⟩ := hrel
      by_cases hlt : j < 64
      · have hx := getD_byt HKB.out j
        have hbx := xr_bits _ _ hx HM.out
        by_cases hjn : j < n
        · obtain ⟨bb, oo, rfl, hbb, kc⟩ := (HR1.out.below HB.out).cell_at hjn
          have HP : Hid (pre K m (j + 1) = pre K m j ++ [xr (K.getD j 0) m]) := rfl
          generalize xr (K.getD j 0) m = y at hbx HP
          generalize K.getD j 0 = x at kc hbx hx
          clear hx
          go_wp2_with (at_builtin; refine push_own rfl (.tmp 20) (.tmp 27) 22 rfl w.heap.size 5 i0 .u8 1 Tryd.underlying22 hi hz0 hz1 hz2 _ j (pre K m j) y rfl HO.out rfl (by omega) (by omega) HB.out.size ?_; intro v3 w3 hown3 hb3; have HO3 := Lib.hid hown3; have HB3 := Lib.hid (HB.out.trans hb3); clear hown3 hb3)
          go_roundw
          case rel => exact ⟨j + 1, by omega, by go_num, by rw [HP.out]; exact HO3, HB3⟩
          case measure => simp [intOf]; omega
        · have hz : K.getD j 0 = 0 := by
            have := HR1.out.len
            simp [List.getD, List.getElem?_eq_none (by omega : K.length ≤ j)]
          have HP : Hid (pre K m (j + 1) = pre K m j ++ [m]) := by
            show pre K m j ++ [xr (K.getD j 0) m] = _
            rw [hz, xr_zero HM.out.1]
          clear hbx hx hz
          go_wp2_with (at_builtin; refine push_own rfl (.tmp 29) (.tmp 31) 22 rfl w.heap.size 5 i0 .u8 1 Tryd.underlying22 hi hz0 hz1 hz2 _ j (pre K m j) m rfl HO.out rfl (by omega) (by omega) HB.out.size ?_; intro v3 w3 hown3 hb3; have HO3 := Lib.hid hown3; have HB3 := Lib.hid (HB.out.trans hb3); clear hown3 hb3)
          go_roundw
          case rel => exact ⟨j + 1, by omega, by go_num, by rw [HP.out]; exact HO3, HB3⟩
          case measure => simp [intOf]; omega
      · obtain rfl : j = 64 := by omega
        go_wp2
        go_ret
        have e : blk k m = pre K m 64 := by unfold blk; rw [HKE.out]
        rw [e]
        exact ⟨_, rfl, HO.out, HB.out⟩

set_option maxHeartbeats 800000 in
set_option maxRecDepth 100000 in
theorem reftag_any (A A' : Option Addr) (n c n' c' : Nat) (k b : List Int) (w : World) (h : Row .u8 w w.heap.size A n k) (h' : Row .u8 w w.heap.size A' n' b) (hnil : A = none → c = 0) (hnil' : A' = none → c' = 0) (hn : n ≤ 1099511627776) (hn' : n' ≤ 549755813888) (hk : ∀ x ∈ k, 0 ≤ x ∧ x ≤ 255) (hb : ∀ x ∈ b, 0 ≤ x ∧ x ≤ 255) :
    Calls Tryd.prog 8 #[.slice A n c, .slice A' n' c'] w fun e w' => ∃ v, e = .returned v ∧ w'.ownsRow w.heap.size 5 1 v 32 ((mac k b).map (Value.int .u8)) ∧ Below w.heap.size w w' := by
  obtain ⟨i0, hi, hz0, hz1, hz2⟩ := parts_of info8
  have H := Lib.hid h
  have H' := Lib.hid h'
  have HK := Lib.hid hk
  have HB := Lib.hid hb
  have HN := Lib.hid hnil
  have HN' := Lib.hid hnil'
  clear h h' hk hb hnil hnil'
  go_enter Tryd.func8, Tryd.ntmps8
  go_wp2_with fail
  refine (refblock_any A n c k 54 w H.out HN.out hn HK.out (by omega)).mono ?_
  rintro e1 w1 ⟨v1, rfl, hown1, hb1⟩
  have HO1 := Lib.hid hown1
  have HB1 := Lib.hid hb1
  clear hown1 hb1
  go_wp2_with (at_builtin; refine cat_own rfl (.tmp 7) (.tmp 8) 22 rfl w.heap.size 5 i0 .u8 1 Tryd.underlying22 hi hz0 hz1 hz2 _ 64 (blk k 54) rfl HO1.out w.heap.size A' n' c' b rfl HN'.out (H'.out.below HB1.out) (by omega) (by omega) HB1.out.size ?_; intro v2 w2 hown2 hb2; have HO2 := Lib.hid hown2; have HB2 := Lib.hid (HB1.out.trans hb2); clear hown2 hb2)
  obtain ⟨A2, c2, rfl, -, hnil2⟩ := own_slice HO2.out
  have HN2 := Lib.hid hnil2
  have HIN : Hid (∀ x ∈ blk k 54 ++ b, 0 ≤ x ∧ x ≤ 255) := fun x hx => by
    rcases List.mem_append.1 hx with hx | hx
    · exact blk_byt HK.out (by omega) x hx
    · exact HB.out x hx
  clear hnil2
  refine (refsum_any A2 (64 + n') c2 (blk k 54 ++ b) _ (Row.of_own HO2.out) HN2.out (by omega) HIN.out).mono ?_
  rintro e3 w3 ⟨v3, rfl, hown3, hb3⟩
  obtain ⟨A3, c3, rfl, -, hnil3⟩ := own_slice hown3
  have HO3 := Lib.hid hown3
  have HN3 := Lib.hid hnil3
  have HB3 := Lib.hid (HB2.out.trans (hb3.mono HB2.out.size))
  clear hown3 hb3 hnil3 HO1 HO2
  go_wp2_with fail
  refine (refblock_any A n c k 92 w3 ((H.out.below HB3.out).more HB3.out.size) HN.out hn HK.out (by omega)).mono ?_
  rintro e4 w4 ⟨v4, rfl, hown4, hb4⟩
  have HO4 := Lib.hid hown4
  have HR3 := Lib.hid ((Row.of_own HO3.out).below hb4)
  have HB4 := Lib.hid (HB3.out.trans (hb4.mono HB3.out.size))
  have HS4 := Lib.hid hb4.size
  clear hown4 hb4
  go_wp2_with (at_builtin; refine cat_own rfl (.tmp 12) (.tmp 13) 22 rfl w3.heap.size 5 i0 .u8 1 Tryd.underlying22 hi hz0 hz1 hz2 _ 64 (blk k 92) rfl HO4.out w3.heap.size A3 32 c3 (sum256 (blk k 54 ++ b)) rfl HN3.out HR3.out (by omega) (by omega) HS4.out ?_; intro v5 w5 hown5 hb5; have HO5 := Lib.hid hown5; have HB5 := Lib.hid (HB4.out.trans (hb5.mono HB3.out.size)); clear hown5 hb5)
  obtain ⟨A5, c5, rfl, -, hnil5⟩ := own_slice HO5.out
  have HN5 := Lib.hid hnil5
  have HOUT : Hid (∀ x ∈ blk k 92 ++ sum256 (blk k 54 ++ b), 0 ≤ x ∧ x ≤ 255) := fun x hx => by
    rcases List.mem_append.1 hx with hx | hx
    · exact blk_byt HK.out (by omega) x hx
    · exact sum256_byt _ x hx
  clear hnil5
  refine (refsum_any A5 (64 + 32) c5 (blk k 92 ++ sum256 (blk k 54 ++ b)) _ (Row.of_own HO5.out) HN5.out (by omega) HOUT.out).mono ?_
  rintro e6 w6 ⟨v6, rfl, hown6, hb6⟩
  have HO6 := Lib.hid hown6
  have HB6 := Lib.hid (HB5.out.trans (hb6.mono HB5.out.size))
  clear hown6 hb6
  go_wp2
  go_ret
  exact ⟨_, rfl, own_low HO6.out HB5.out.size, HB6.out⟩
end Go.Proofs.YtclidocmfdimiaaDoor.Hmc
