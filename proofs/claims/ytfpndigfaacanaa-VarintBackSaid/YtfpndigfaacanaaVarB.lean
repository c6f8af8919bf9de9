/- The walk of VarintBack: it returns true, whatever came in. -/
import Derived.Test.YtfpndigfaacanaaVarL
import Derived.Deep.RegionHeld3
import Derived.Deep.DrawnRows
namespace Go.Proofs.Ytfpndigfaacanaa.Var
open Go.RowKit

theorem take_is {A : Option Addr} {n c B : Nat} {xs : List Int} {w : World} {x k r : Nat} (h : Row .u8 w B A n xs) (hb : ∀ x ∈ xs, 0 ≤ x ∧ x ≤ 255) (ht : take 0 0 xs = (x, k, r)) :
    Calls Try.prog 12 #[.slice A n c] w fun e w' => e = .returned (.tuple #[.int .u64 (x : Int), .int .i64 (k : Int), .int .i64 (r : Int)]) ∧ w = w' := by
  have := take_any A n c B xs w h hb
  rw [ht] at this
  exact this
theorem back_of_turn (s : Int) (h1 : -9223372036854775808 ≤ s) (h2 : s ≤ 9223372036854775807) (w : World) :
    Calls Try.prog 14 #[.int .u64 (turn s)] w fun e w' => e = .returned (.int .i64 s) ∧ w = w' := by
  have b := turn_bd h1 h2
  have := back_any (turn s) b.1 b.2 w
  rw [back_turn] at this
  exact this
theorem turn_of_back (m : Int) (h1 : 0 ≤ m) (h2 : m ≤ 18446744073709551615) (w : World) :
    Calls Try.prog 10 #[.int .i64 (back m)] w fun e w' => e = .returned (.int .u64 m) ∧ w = w' := by
  have b := back_bd h1 h2
  have := turn_any (back m) b.1 b.2 w
  rw [turn_back h1] at this
  exact this
/-- What is taken fits in 64 bits. -/
theorem take_lt : ∀ (b : List Int) (i X : Nat), i ≤ 9 → X < 128 ^ i → (∀ x ∈ b, 0 ≤ x ∧ x ≤ 255) → (take X i b).1 < 18446744073709551616
  | [], i, X, _, _, _ => by simp [take]
  | y :: cs, i, X, hi, hX, hb => by
    have hy := hb y (by simp)
    have hcs : ∀ x ∈ cs, 0 ≤ x ∧ x ≤ 255 := fun x hx => hb x (by simp [hx])
    by_cases e1 : i = 9 ∧ 1 < y
    · rw [take_no (by omega) hi e1.2]; simp
    have h9 : i = 9 → y ≤ 1 := by omega
    obtain ⟨-, g1, g2⟩ := group X i y hy.1 hi h9 hX
    by_cases e2 : y < 128
    · by_cases e3 : y = 0 ∧ 0 < i
      · rw [take_zero (by omega) hy.1 e3.2]; simp
      · rw [take_end hy.1 h9 e2 (by omega)]; exact g2
    · rw [take_on h9 (by omega)]
      exact take_lt cs (i + 1) _ (by omega) (g1 (by omega)) hcs

theorem put_like {x k : Nat} {xs : List Int} (hx : x < 18446744073709551616) (hp : put x = xs.take k) (hk : k ≤ xs.length) (w : World) :
    Calls Try.prog 8 #[.int .u64 (x : Int)] w fun e w' => ∃ A c, e = .returned (.slice A k c) ∧ Row .u8 w' w'.heap.size A k (xs.take k) ∧ Below w.heap.size w w' := by
  refine (put_any x hx w).mono ?_
  rintro e w1 ⟨v, rfl, hown, hb⟩
  have hl : (put x).length = k := by rw [hp]; simp; omega
  rw [hl, hp] at hown
  obtain ⟨A, c, rfl, -, -⟩ := own_slice hown
  exact ⟨A, c, rfl, Row.of_own hown, hb⟩
theorem row_take {w : World} {B n k : Nat} {A : Option Addr} {xs : List Int} (h : Row .u8 w B A n xs) (hk : k ≤ n) : Row .u8 w B A k (xs.take k) := by
  have hl := h.1
  refine ⟨by simp; omega, fun h0 => ?_⟩
  obtain ⟨b, o, e, hb, hc⟩ := h.2 (by omega)
  refine ⟨b, o, e, hb, fun j hj => ?_⟩
  rw [hc j (by omega)]
  simp [List.getD, hj]

set_option maxHeartbeats 1600000 in
set_option maxRecDepth 100000 in
theorem back_walk (m : Nat) (s : Int) (A : Option Addr) (n c : Nat) (xs : List Int) (w : World) (hm : m < 18446744073709551616) (h1 : -9223372036854775808 ≤ s) (h2 : s ≤ 9223372036854775807)
    (hnil : A = none → c = 0) (hnc : n ≤ c) (h : Row .u8 w w.heap.size A n xs) (hb : ∀ x ∈ xs, 0 ≤ x ∧ x ≤ 255) :
    Calls Try.prog 5 #[.int .u64 (m : Int), .int .i64 s, .slice A n c] w fun e w' => e = .returned (.bool true) ∧ Below w.heap.size w w' := by
  obtain ⟨i0, hi, hz0, hz1, hz2⟩ := info_parts info_u8
  have HM := Lib.hid hm
  have H1 := Lib.hid h1
  have H2 := Lib.hid h2
  have H := Lib.hid h
  have HB := Lib.hid hb
  have HNIL := Lib.hid hnil
  clear hm h1 h2 h hb hnil
  go_enter Try.func5, Try.ntmps5
  go_wp2_with fail
  refine (awake_any _).mono ?_
  rintro e1 w1 ⟨rfl, hb1⟩
  have R1 := Lib.hid (H.out.below hb1)
  have B1 := Lib.hid hb1
  have hs1 := hb1.size
  clear hb1
  by_cases hlong : 2000 < n
  · go_wp2
    go_ret
    exact ⟨rfl, B1.out⟩
  · go_wp2_with fail
    refine (put_any m HM.out _).mono ?_
    rintro e2 w2 ⟨v2, rfl, hown2, hb2⟩
    obtain ⟨A2, c2, rfl, -, hn2⟩ := own_slice hown2
    have O2 := Lib.hid (Row.of_own hown2)
    have N2 := Lib.hid hn2
    have B2 := Lib.hid (B1.out.trans (hb2.mono hs1))
    have R2 := Lib.hid (R1.out.below (hb2.mono hs1))
    have hs2 := hb2.size
    have hlen := put_len10 HM.out
    clear hown2 hb2 hn2
    generalize hgl : (put m).length = l at *
    have HGL := Lib.hid hgl
    clear hgl
    have hs02 : w.heap.size ≤ w2.heap.size := by omega
    have ht4 : take 0 0 ([] ++ put m ++ xs) = (m, l, 0) := by
      have := take_put m 0 0 xs (by have := HM.out; omega) (by omega) (Or.inr rfl)
      simpa [HGL.out] using this
    have HT4 := Lib.hid ht4
    have HB4 : Hid (∀ x ∈ ([] ++ put m ++ xs), 0 ≤ x ∧ x ≤ 255) := by
      intro x hx
      simp only [List.nil_append, List.mem_append] at hx
      rcases hx with hx | hx
      · exact put_byte m x hx
      · exact HB.out x hx
    clear ht4
    go_wp2_with (first
      | (at_builtin; refine cat_own rfl (.tmp 22) (.tmp 23) 25 rfl w2.heap.size 5 i0 .u8 1 Try.underlying25 hi hz0 hz1 hz2 (.slice (some ⟨w2.heap.size, 0, none⟩) 0 0) 0 [] rfl (World.ownsRow_made _ _ 0 (Nat.le_refl _) (by unfold maxLen; omega) rfl) w2.heap.size A2 l c2 (put m) rfl N2.out (O2.out.alloc (Nat.le_refl _) _) (by omega) (by omega) (by simp) ?_; intro v3 w3 hown3 hb3)
      | (at_builtin; refine cat_own rfl (.tmp 24) (.tmp 25) 25 rfl w2.heap.size 5 i0 .u8 1 Try.underlying25 hi hz0 hz1 hz2 v3 (0 + l) ([] ++ put m) rfl hown3 w.heap.size A n c xs rfl HNIL.out ((R2.out.alloc hs02 _).below (hb3.mono hs02)) (by omega) (by omega) (Nat.le_trans (by simp) hb3.size) ?_; intro v4 w4 hown4 hb4))
    obtain ⟨A4, c4, rfl, -, -⟩ := own_slice hown4
    have R4 := Lib.hid (Row.of_own hown4)
    have B4 := Lib.hid (((B2.out.alloc hs02 (.cells #[] 5)).trans (hb3.mono hs02)).trans (hb4.mono hs02))
    have R5 := Lib.hid (H.out.below B4.out)
    have hs4 := B4.out.size
    clear hown3 hown4 hb3 hb4
    refine (take_is R4.out HB4.out HT4.out).mono ?_
    rintro e5 w5 ⟨rfl, rfl⟩
    go_wp2_with fail
    refine (turn_any s H1.out H2.out _).mono ?_
    rintro e6 w6 ⟨rfl, rfl⟩
    go_wp2_with fail
    refine (back_of_turn s H1.out H2.out _).mono ?_
    rintro e7 w7 ⟨rfl, rfl⟩
    go_wp2_with fail
    refine (back_any m (by omega) (by have := HM.out; omega) _).mono ?_
    rintro e8 w8 ⟨rfl, rfl⟩
    go_wp2_with fail
    refine (turn_of_back m (by omega) (by have := HM.out; omega) _).mono ?_
    rintro e9 w9 ⟨rfl, rfl⟩
    obtain ⟨x, k, r, ht⟩ : ∃ x k r, take 0 0 xs = (x, k, r) := ⟨_, _, _, rfl⟩
    have HT := Lib.hid ht
    clear ht
    go_wp2_with fail
    refine (take_is R5.out HB.out HT.out).mono ?_
    rintro e10 w10 ⟨rfl, rfl⟩
    by_cases hr : r = 0
    · have hrb : ((r : Int) != 0) = false := by subst hr; rfl
      have P := put_take xs 0 0 HB.out (by rw [HT.out]; exact hr)
      rw [HT.out] at P
      obtain ⟨x', e1, _, hk1, hk2, hput⟩ := P
      have ex : x = x' := by simpa using e1
      subst ex
      have HP : Hid (put x = xs.take k) := by unfold Hid; simpa using hput
      have HX : Hid (x < 18446744073709551616) := by
        have := take_lt xs 0 0 (by omega) (by omega) HB.out
        rw [HT.out] at this
        exact this
      have hkn : k ≤ n := by have := R5.out.len; simp at hk2; omega
      have hk0 : 0 < k := hk1
      clear hr e1 hput hk1 hk2
      obtain ⟨b, o, rfl, _, _⟩ := R5.out.cell_at (show 0 < n by omega)
      have R6 := Lib.hid (row_take R5.out hkn)
      have HK : Hid (k ≤ xs.length) := by unfold Hid; rw [R5.out.len]; exact hkn
      go_wp2_with fail
      have hg1 : decide ((1 : Int) ≤ (k : Int)) = true := by simp; omega
      have hg2 : decide (k ≤ n) = true := by simp; omega
      have hg3 : decide ((k : Int) ≤ (n : Int)) = true := by simp; omega
      have hg4 : (0 : Int) ≤ (k : Int) := by omega
      have hg5 : (k : Int) ≤ (c : Int) := by omega
      have hg6 : (k : Int) ≤ (n : Int) := by omega
      have hg7 : k ≤ c := by omega
      go_region_held3 (fun _ => True) (trivial) (first
        | (go_at_call 8; refine (put_like HX.out HP.out HK.out _).mono ?_; rintro e11 w11 ⟨A7, c7, rfl, hr7, hb7⟩; have R7 := Lib.hid hr7; have B7 := Lib.hid hb7; clear hr7 hb7)
        | (go_at_call 7; refine (same_yes A7 _ k c7 _ _ _ (xs.take k) _ (by omega) R7.out (R6.out.drew.below (B7.out.mono hs4))).mono ?_; rintro e12 w12 ⟨rfl, q, rfl⟩))
      go_wp2
      go_ret
      exact ⟨rfl, by have h := B4.out.drew.trans (B7.out.mono hs4); exact ⟨h.os, h.tape, h.output, h.size, h.block⟩⟩
    · have hrb : ((r : Int) != 0) = true := by simpa using hr
      have P := take_fails xs 0 0 (by rw [HT.out]; exact hr)
      rw [HT.out] at P
      obtain ⟨e1, e2⟩ := P
      have ex : x = 0 := e1
      have ek : k = 0 := e2
      subst ex ek
      clear hr e1 e2
      go_wp2
      go_ret
      exact ⟨rfl, B4.out⟩
end Go.Proofs.Ytfpndigfaacanaa.Var
