/- The example ahead of each statement of layer 1, and the statements of layer 1 as walks: each returns true, whatever came in. -/
import Derived.Test.YtfpndigfaacanaaVarR
namespace Go.Proofs.Ytfpndigfaacanaa.Var
open Go.RowKit

theorem put300 (w : World) : Calls Try.prog 8 #[.int .u64 300] w fun e w' =>
    ∃ g c : Nat, e = .returned (.slice (some ⟨g, 0, none⟩) 2 c) ∧ w'.cell? ⟨g, 0, none⟩ = some (.int .u8 172) ∧ w'.cell? ⟨g, 1, none⟩ = some (.int .u8 2) ∧ Below w.heap.size w w' := by
  have e : put 300 = [172, 2] := by rw [put_more (by omega), put_last (by omega)]; rfl
  refine (put_any 300 (by omega) w).mono ?_
  rintro e1 w1 ⟨v, rfl, hown, hb⟩
  rw [e] at hown
  rcases hown.2 with ⟨_, h0⟩ | ⟨g, cap, cur, rfl, _⟩
  · simp at h0
  · exact ⟨g, cap, rfl, by rw [hown.cellAt 0 (by simp)]; rfl, by rw [hown.cellAt 1 (by simp)]; rfl, hb⟩

set_option maxHeartbeats 800000 in
set_option maxRecDepth 100000 in
theorem awake_any (w : World) : Calls Try.prog 6 #[] w fun e w' => e = .returned (.bool true) ∧ Below w.heap.size w w' := by
  go_enter Try.func6, Try.ntmps6
  go_wp2_with fail
  refine (put300 _).mono ?_
  rintro e1 w1 ⟨g, c, rfl, h0, h1, hb⟩
  go_wp2_with fail
  refine (turn_any (-2) (by omega) (by omega) _).mono ?_
  rintro e2 w2 ⟨rfl, rfl⟩
  go_wp2
  go_ret
  exact ⟨rfl, hb⟩

set_option maxHeartbeats 800000 in
set_option maxRecDepth 100000 in
theorem puts_walk (n : Nat) (s : Int) (hn : n < 18446744073709551616) (h1 : -9223372036854775808 ≤ s) (h2 : s ≤ 9223372036854775807) (w : World) :
    Calls Try.prog 3 #[.int .u64 (n : Int), .int .i64 s] w fun e w' => e = .returned (.bool true) ∧ Below w.heap.size w w' := by
  have HN := Lib.hid hn
  have H1 := Lib.hid h1
  have H2 := Lib.hid h2
  clear hn h1 h2
  go_enter Try.func3, Try.ntmps3
  go_wp2_with fail
  refine (awake_any _).mono ?_
  rintro e1 w1 ⟨rfl, hb1⟩
  go_wp2_with fail
  refine (put_any n HN.out _).mono ?_
  rintro e2 w2 ⟨v2, rfl, hown2, hb2⟩
  obtain ⟨A2, c2, rfl, -, -⟩ := own_slice hown2
  go_wp2_with fail
  refine (refput_any n HN.out _).mono ?_
  rintro e3 w3 ⟨v3, rfl, hown3, hb3⟩
  obtain ⟨A3, c3, rfl, -, -⟩ := own_slice hown3
  have R2 := Lib.hid ((Row.of_own hown2).below hb3)
  have R3 := Lib.hid (Row.of_own hown3)
  have HB := Lib.hid ((hb1.trans (hb2.mono hb1.size)).trans (hb3.mono (Nat.le_trans hb1.size hb2.size)))
  have HL := Lib.hid (put_len10 HN.out)
  clear hown2 hown3 hb1 hb2 hb3
  go_wp2_with fail
  refine (same_yes A2 A3 _ c2 c3 _ _ (put n) _ (by have := HL.out; omega) R2.out R3.out).mono ?_
  rintro e4 w4 ⟨rfl, q, rfl⟩
  go_wp2_with fail
  refine (turn_any s H1.out H2.out _).mono ?_
  rintro e5 w5 ⟨rfl, rfl⟩
  go_wp2_with fail
  refine (refturn_any s H1.out H2.out _).mono ?_
  rintro e6 w6 ⟨rfl, rfl⟩
  go_wp2
  go_ret
  exact ⟨rfl, ⟨HB.out.os, HB.out.tape, HB.out.output, HB.out.size, HB.out.block⟩⟩

set_option maxHeartbeats 800000 in
set_option maxRecDepth 100000 in
theorem takes_walk (A : Option Addr) (n c : Nat) (xs : List Int) (w : World) (h : Row .u8 w w.heap.size A n xs) (hb : ∀ x ∈ xs, 0 ≤ x ∧ x ≤ 255) :
    Calls Try.prog 4 #[.slice A n c] w fun e w' => e = .returned (.bool true) ∧ Below w.heap.size w w' := by
  have H := Lib.hid h
  have HB := Lib.hid hb
  clear h hb
  go_enter Try.func4, Try.ntmps4
  go_wp2_with fail
  refine (awake_any _).mono ?_
  rintro e1 w1 ⟨rfl, hb1⟩
  have H1 := Lib.hid (H.out.below hb1)
  have HB1 := Lib.hid hb1
  clear hb1
  go_wp2_with fail
  refine (take_any A n c _ xs _ H1.out HB.out).mono ?_
  rintro e2 w2 ⟨rfl, rfl⟩
  go_wp2_with fail
  refine (reftake_any A n c _ xs _ H1.out HB.out).mono ?_
  rintro e3 w3 ⟨rfl, rfl⟩
  go_wp2
  go_ret
  exact ⟨rfl, HB1.out⟩
end Go.Proofs.Ytfpndigfaacanaa.Var
