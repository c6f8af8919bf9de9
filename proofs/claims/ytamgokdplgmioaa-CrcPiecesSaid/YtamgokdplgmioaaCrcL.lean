/- The walks of the two laws of layer 2 (crc). -/
import Derived.Test.YtamgokdplgmioaaProg
import Derived.Test.YtamgokdplgmioaaBase
import Derived.Test.YtamgokdplgmioaaCrcM
import Derived.Test.YtamgokdplgmioaaCrcR
import Derived.Test.YtamgokdplgmioaaSame
import Derived.WalkKit
import Derived.KernelRfl
import Derived.WalkMore
import Derived.StillTailTactics
import Derived.RegionTactic
import Derived.ChangeAlike
namespace Go.Proofs.Ytamgokdplgmioaa.Crc
open Go.RowKit

set_option maxHeartbeats 800000 in
set_option maxRecDepth 100000 in
theorem sums_walk (A : Option Addr) (n c : Nat) (xs : List Int) (m : Nat) (w : World) (hr : Row .u8 w w.heap.size A n xs) (hx : Bytes xs) (hm : m < 4294967296) :
    Calls Try.prog 3 #[.slice A n c, .int .u32 (m : Int)] w fun e w' => e = .returned (.bool true) ∧ Below w.heap.size w w' := by
  have HR := Lib.hid hr
  have HX := Lib.hid hx
  clear hr hx
  go_enter Try.func3, Try.ntmps3
  go_wp2_with fail
  refine (awake_any _).mono ?_
  rintro e1 w1 ⟨rfl, hb1⟩
  have HB1 := Lib.hid hb1
  clear hb1
  by_cases hbig : n ≤ 5000
  · go_wp2_with fail
    refine (sum_any A n c _ xs _ (Row.below HR.out HB1.out) HX.out HB1.out.size (by omega)).mono ?_
    rintro e2 w2 ⟨rfl, hb2⟩
    have HB2 := Lib.hid (HB1.out.trans (hb2.mono HB1.out.size))
    clear hb2
    go_wp2_with fail
    refine (refsum_any A n c _ xs _ (Row.below HR.out HB2.out) HX.out (by omega)).mono ?_
    rintro e3 w3 ⟨rfl, rfl⟩
    go_wp2_with fail
    refine (bytes_any m _).mono ?_
    rintro e4 w4 ⟨v4, rfl, hown4, hb4⟩
    obtain ⟨A4, c4, rfl, -, -⟩ := own_slice hown4
    go_wp2_with fail
    refine (refbytes_any m hm _).mono ?_
    rintro e5 w5 ⟨v5, rfl, hown5, hb5⟩
    obtain ⟨A5, c5, rfl, -, -⟩ := own_slice hown5
    have R4 := Lib.hid ((Row.of_own hown4).below hb5)
    have R5 := Lib.hid (Row.of_own hown5)
    have HB := Lib.hid ((HB2.out.trans (hb4.mono HB2.out.size)).trans (hb5.mono (Nat.le_trans HB2.out.size hb4.size)))
    clear hown4 hown5 hb4 hb5
    go_wp2_with fail
    refine (same_yes A4 A5 4 c4 c5 _ _ (byts 4 m) _ (by omega) R4.out R5.out).mono ?_
    rintro e6 w6 ⟨rfl, q, rfl⟩
    go_wp2
    go_ret
    exact ⟨rfl, ⟨HB.out.os, HB.out.tape, HB.out.output, HB.out.size, HB.out.block⟩⟩
  · go_wp2
    go_ret
    exact ⟨rfl, HB1.out⟩

set_option maxHeartbeats 1600000 in
set_option maxRecDepth 100000 in
theorem pieces_walk (A A' : Option Addr) (n c n' c' : Nat) (xs ys : List Int) (x y : Nat) (w : World) (hr : Row .u8 w w.heap.size A n xs) (hr' : Row .u8 w w.heap.size A' n' ys) (hx : Bytes xs) (hy : Bytes ys)
    (hnil : A = none → c = 0) (hnil' : A' = none → c' = 0) (h1 : x < 65536) (h2 : y < 65536) :
    Calls Try.prog 4 #[.slice A n c, .slice A' n' c', .agg #[.int .u16 (x : Int), .int .u16 (y : Int)]] w fun e w' => e = .returned (.bool true) ∧ Below w.heap.size w w' := by
  obtain ⟨i0, hi, hz0, hz1, hz2⟩ := info_parts info_u8
  have HR := Lib.hid hr
  have HR' := Lib.hid hr'
  have HX := Lib.hid hx
  have HY := Lib.hid hy
  have hlen := hr.len
  have hlen' := hr'.len
  have HN := Lib.hid hnil
  have HN' := Lib.hid hnil'
  clear hr hr' hx hy hnil hnil'
  go_enter Try.func4, Try.ntmps4
  go_wp2_with fail
  refine (awake_any _).mono ?_
  rintro e1 w1 ⟨rfl, hb1⟩
  have hat0 := hb1.cell (p := ⟨w.heap.size, 0, none⟩) (by simp)
  have hat1 := hb1.cell (p := ⟨w.heap.size, 1, none⟩) (by simp)
  simp at hat0 hat1
  have HB1 := Lib.hid (((Below.refl w.heap.size w).alloc (Nat.le_refl _) _).trans (hb1.mono (by simp)))
  have hsz1 : w.heap.size + 1 ≤ w1.heap.size := by simpa using hb1.size
  clear hb1
  by_cases hbig : n ≤ 3000
  · by_cases hbig' : n' ≤ 3000
    · have hd : decide ((3000 : Int) < (n : Int)) = false := by simp; omega
      have hd' : decide ((3000 : Int) < (n' : Int)) = false := by simp; omega
      have HO : Hid ((w1.alloc (.cells #[] 5)).ownsRow w1.heap.size 5 1 (.slice (some ⟨w1.heap.size, 0, none⟩) 0 0) 0 (([] : List Int).map (Value.int .u8))) := World.ownsRow_lit w1 #[] 0 (Nat.le_refl _) (Nat.zero_le _) rfl
      have HR1 : Hid (Row .u8 (w1.alloc (.cells #[] 5)) w.heap.size A n xs) := (Row.below HR.out HB1.out).alloc (by omega) _
      have HB0 : Hid (Below w1.heap.size w1 (w1.alloc (.cells #[] 5))) := (Below.refl _ _).alloc (Nat.le_refl _) _
      go_wp2_with (at_builtin; first
        | (refine cat_own rfl (.tmp 19) (.tmp 20) 22 rfl w1.heap.size 5 i0 .u8 1 Try.underlying22 hi hz0 hz1 hz2 _ 0 [] rfl HO.out w.heap.size A n c xs rfl HN.out HR1.out (by omega) (by omega) (by simp) ?_; intro v2 w2 hown2 hb2; have HO2 := Lib.hid hown2; have HB2 := Lib.hid (HB0.out.trans hb2); clear hown2 hb2)
        | (refine cat_own rfl (.tmp 21) (.tmp 22) 22 rfl w1.heap.size 5 i0 .u8 1 Try.underlying22 hi hz0 hz1 hz2 _ (0 + n) ([] ++ xs) rfl HO2.out w.heap.size A' n' c' ys rfl HN'.out ((Row.below HR'.out HB1.out).below (HB2.out.mono (by omega))) (by omega) (by omega) HB2.out.size ?_; intro v3 w3 hown3 hb3; have HO3 := Lib.hid hown3; have HB3 := Lib.hid (HB2.out.trans hb3); clear hown3 hb3))
      obtain ⟨N, hN⟩ : ∃ N, N = 0 + n + n' := ⟨_, rfl⟩
      obtain ⟨zs, hZ⟩ : ∃ zs : List Int, zs = [] ++ xs ++ ys := ⟨_, rfl⟩
      rw [← hN, ← hZ] at HO3
      have HZ : Hid (zs = xs ++ ys) := by unfold Hid; simpa using hZ
      have HZB : Hid (Bytes zs) := by unfold Hid; rw [HZ.out]; exact HX.out.append HY.out
      have HS : Hid (more (sum xs) ys = sum zs) := by unfold Hid; rw [HZ.out]; exact more_sum HX.out
      have hNb : N ≤ 6000 := by omega
      clear hN hZ
      obtain ⟨A3, c3, rfl, -, -⟩ := own_slice HO3.out
      refine (sum_any A3 N c3 _ zs _ (Row.of_own HO3.out) HZB.out (Nat.le_refl _) (by omega)).mono ?_
      rintro e4 w4 ⟨rfl, hb4⟩
      have HO4 := Lib.hid (own_below HO3.out hb4)
      have HB4 := Lib.hid (HB3.out.trans (hb4.mono HB3.out.size))
      clear hb4
      have HW4 := Lib.hid (HB1.out.trans (HB4.out.mono (by omega)))
      go_wp2_with fail
      refine (sum_any A n c _ xs _ (Row.below HR.out HW4.out) HX.out HW4.out.size (by omega)).mono ?_
      rintro e5 w5 ⟨rfl, hb5⟩
      have HO5 := Lib.hid (own_below HO4.out hb5)
      have HB5 := Lib.hid (HB4.out.trans (hb5.mono HB4.out.size))
      clear hb5
      have HW5 := Lib.hid (HB1.out.trans (HB5.out.mono (by omega)))
      go_wp2_with fail
      refine (more_any (sum xs) (sum_lt xs) A' n' c' _ ys _ (Row.below HR'.out HW5.out) HY.out HW5.out.size (by omega)).mono ?_
      rintro e6 w6 ⟨rfl, hb6⟩
      have HO6 := Lib.hid (own_below HO5.out hb6)
      have HB6 := Lib.hid (HB5.out.trans (hb6.mono HB5.out.size))
      clear hb6
      have HW6 := Lib.hid (HB1.out.trans (HB6.out.mono (by omega)))
      rw [HS.out]
      have hat0' : w6.cell? ⟨w.heap.size, 0, none⟩ = some (.int .u16 (x : Int)) := (HB6.out.cell (p := ⟨w.heap.size, 0, none⟩) (by show w.heap.size < _; omega)).trans hat0
      have hat1' : w6.cell? ⟨w.heap.size, 1, none⟩ = some (.int .u16 (y : Int)) := (HB6.out.cell (p := ⟨w.heap.size, 1, none⟩) (by show w.heap.size < _; omega)).trans hat1
      have hand : bits .and .u16 (y : Int) 255 = ((y % 256 : Nat) : Int) := by rw [← nat_mask8]; exact u16_and_nat y 255 h2 (by omega)
      clear hat0 hat1 HO HR1 HB0 HO2 HB2 HO3 HB3 HO4 HB4 HW4 HO5 HB5 HW5 HS
      by_cases h0 : N = 0
      · subst h0
        go_wp2
        go_ret
        exact ⟨rfl, HW6.out⟩
      · have hne0 : ((N : Int) == 0) = false := by simp; omega
        by_cases hy0 : y % 256 = 0
        · have hy1 : (((y % 256 : Nat) : Int) == 0) = true := by simp; omega
          go_wp2
          go_ret
          exact ⟨rfl, HW6.out⟩
        · have hy1 : (((y % 256 : Nat) : Int) == 0) = false := by simp; omega
          obtain ⟨g, rfl, hg⟩ := own_at HO6.out (by omega)
          obtain ⟨j, hj⟩ : ∃ j, x % N = j := ⟨_, rfl⟩
          have hjN : j < N := by rw [← hj]; exact Nat.mod_lt _ (by omega)
          have hrem : (x : Int) % (N : Int) = (j : Int) := by rw [← hj]; rfl
          have hrem' : (x : Int).tmod (N : Int) = (j : Int) := by rw [← hj]; rfl
          clear hj
          have hzl : zs.length = N := (Row.of_own HO6.out).len
          have hz8 := HZB.out.getD (i := j) (by omega)
          have hcj : w6.cell? ⟨g, j, none⟩ = some (.int .u8 (zs.getD j 0)) := by
            rw [HO6.out.cellAt j (by omega)]
            have : j < zs.length := by omega
            simp [List.getD, this]
          have hfr := HO6.out.frozenAt j
          obtain ⟨z, hz⟩ : ∃ z : Nat, zs.getD j 0 = (z : Int) := ⟨(zs.getD j 0).toNat, by omega⟩
          rw [hz] at hcj hz8
          have HZJ := Lib.hid hz
          clear hz
          obtain ⟨v, hv⟩ : ∃ v, y % 256 = v := ⟨_, rfl⟩
          have hv8 : v < 256 := by omega
          have hwv : IntKind.u8.wrap (y : Int) = (v : Int) := by rw [IntKind.wrap_u8']; omega
          rw [hv] at hand hy0 hy1
          clear hv
          have hxor := u8_xor_nat z v (by omega) hv8
          have hu8 : z ^^^ v < 256 := Nat.xor_lt_two_pow (n := 8) (by omega) (by omega)
          have HNE : Hid (((z ^^^ v : Nat) : Int) ≠ (z : Int)) := by
            intro h
            have h3 : z ^^^ v = z ^^^ 0 := by rw [Nat.xor_zero]; omega
            exact hy0 (xor_left_inj h3)
          generalize z ^^^ v = u at *
          have hj1 : (j : Int) < (N : Int) := by omega
          have hx0 : (0 : Int) ≤ (x : Int) := by omega
          have hN0 : ¬ (N : Int) = 0 := by omega
          have hwx : IntKind.i64.wrap (x : Int) = (x : Int) := IntWalk.i64_in _ ⟨by omega, by omega⟩
          go_wp2
          go_still_tail 14, (by kernel_rfl)
          change wpList _ _ _ _ _ w6.drew
          go_wp2_with fail
          have HO7 : Hid ((w6.setCell ⟨g, j, none⟩ (.int .u8 (u : Int))).ownsRow w1.heap.size 5 1 (.slice (some ⟨g, 0, none⟩) N c3) N ((zs.set j (u : Int)).map (Value.int .u8))) := by
            unfold Hid
            rw [List.map_set]
            exact (HO6.out.stored j _).1
          refine (sum_any (some ⟨g, 0, none⟩) N c3 _ (zs.set j (u : Int)) _ (Row.of_own HO7.out).drew (HZB.out.set j ⟨by omega, by omega⟩) (Nat.le_refl _) (by omega)).mono ?_
          rintro e7 w7 ⟨rfl, hb7⟩
          have hgw : w.heap.size ≤ g := by omega
          have HW7 := Lib.hid (HW6.out.setCell (p := ⟨g, j, none⟩) hgw (.int .u8 (u : Int)))
          have HW8 := Lib.hid (HW7.out.drew.trans (hb7.mono HW7.out.size))
          clear hb7
          have hd7 : sum (zs.set j (u : Int)) ≠ sum zs := sum_turn HZB.out (by omega) ⟨by omega, by omega⟩ (by rw [HZJ.out]; exact HNE.out)
          generalize sum (zs.set j (u : Int)) = s1 at *
          generalize sum zs = s2 at *
          have hd8 : ((s1 : Int) == (s2 : Int)) = false := by simp; omega
          have hd9 : ((s1 : Int) != (s2 : Int)) = true := by simp; omega
          clear hd7
          go_wp2
          go_ret
          exact ⟨rfl, HW8.out⟩
    · have hd : decide ((3000 : Int) < (n : Int)) = false := by simp; omega
      have hd' : decide ((3000 : Int) < (n' : Int)) = true := by simp; omega
      go_wp2
      go_ret
      exact ⟨rfl, HB1.out⟩
  · have hd : decide ((3000 : Int) < (n : Int)) = true := by simp; omega
    go_wp2
    go_ret
    exact ⟨rfl, HB1.out⟩
end Go.Proofs.Ytamgokdplgmioaa.Crc
