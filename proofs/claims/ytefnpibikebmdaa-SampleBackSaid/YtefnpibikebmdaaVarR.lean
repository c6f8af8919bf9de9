/- The reference's Take of layer 1, as a contract. -/
import Derived.Test.YtefnpibikebmdaaVarT
namespace Go.Proofs.Ytefnpibikebmdaa.Var
open Go.RowKit

theorem group_sum (X i S : Nat) (y : Int) (h0 : 0 ≤ y) (hi : i ≤ 9) (h9 : i = 9 → y ≤ 1) (hX : X < 128 ^ i) (hS : S = 128 ^ i) :
    ∃ P Y : Nat, IntKind.u64.wrap (y % 128 * (S : Int)) = (P : Int) ∧ IntKind.u64.wrap ((X : Int) + (P : Int)) = (Y : Int) ∧ Hid (Y = X + y.toNat % 128 * 128 ^ i) ∧ Hid (i < 9 → Y < 128 ^ (i + 1)) ∧
      (i < 9 → IntKind.u64.wrap ((S : Int) * 128) = ((128 ^ (i + 1) : Nat) : Int)) := by
  subst hS
  obtain ⟨-, g1, g2⟩ := group X i y h0 hi h9 hX
  obtain ⟨d, rfl⟩ := Int.eq_ofNat_of_zero_le h0
  have e2 : (d : Int).toNat = d := by simp
  rw [e2] at g1 g2 ⊢
  have e1 : (d : Int) % 128 * ((128 ^ i : Nat) : Int) = ((d % 128 * 128 ^ i : Nat) : Int) := by simp
  refine ⟨d % 128 * 128 ^ i, X + d % 128 * 128 ^ i, ?_, ?_, rfl, g1, fun h => ?_⟩
  · rw [e1]; exact IntWalk.u64_in _ ⟨by omega, by omega⟩
  · rw [IntWalk.u64_in _ ⟨by omega, by omega⟩]; omega
  · have hp : 128 ^ (i + 1) ≤ 128 ^ 9 := Nat.pow_le_pow_right (by omega) (by omega)
    have e3 : ((128 ^ i : Nat) : Int) * 128 = ((128 ^ (i + 1) : Nat) : Int) := by rw [Nat.pow_succ]; simp
    rw [e3]
    exact IntWalk.u64_in _ ⟨by omega, by omega⟩

set_option maxHeartbeats 3200000 in
set_option maxRecDepth 100000 in
theorem reftake_any (A : Option Addr) (n c B : Nat) (xs : List Int) (w : World) (h : Row .u8 w B A n xs) (hb : ∀ x ∈ xs, 0 ≤ x ∧ x ≤ 255) :
    Calls Try.prog 49 #[.slice A n c] w fun e w' =>
      e = .returned (.tuple #[.int .u64 ((take 0 0 xs).1 : Int), .int .i64 ((take 0 0 xs).2.1 : Int), .int .i64 ((take 0 0 xs).2.2 : Int)]) ∧ w = w' := by
  have H := Lib.hid h
  have HB := Lib.hid hb
  clear h hb
  go_enter Try.func49, Try.ntmps49
  go_wp2
  go_loop [5, 6, 7] (fun a s t => ∃ i X S : Nat, i ≤ n ∧ i ≤ 9 ∧ Hid (X < 128 ^ i) ∧ Hid (S = 128 ^ i) ∧ Hid (take 0 0 xs = take X i (xs.drop i)) ∧ a = .int .u64 (X : Int) ∧ s = .int .u64 (S : Int) ∧ t = .int .i64 (i : Int)) (fun _ _ t => n - (intOf t).toNat)
  case atStart => exact ⟨0, 0, 1, Nat.zero_le _, by omega, by unfold Hid; simp, by unfold Hid; simp, rfl, rfl, rfl, rfl⟩
  case round =>
    obtain ⟨i, X, S, hi, hi9, HX, HS, HT, rfl, rfl, rfl⟩ := hrel
    by_cases hlt : i < n
    · obtain ⟨b, o, rfl, _, hcell⟩ := H.out.cell_at hlt
      have hxi : i < xs.length := by rw [H.out.len]; exact hlt
      have hy := HB.out (xs.getD i 0) (by simp [List.getD, hxi])
      have HT' : Hid (take 0 0 xs = take X i (xs.getD i 0 :: xs.drop (i + 1))) := by
        unfold Hid; rw [HT.out, List.drop_eq_getElem_cons hxi]; simp [List.getD, hxi]
      clear HT
      generalize xs.getD i 0 = y at *
      obtain ⟨hy0, hy1⟩ := hy
      by_cases hno : i = 9 ∧ 1 < y
      · obtain ⟨h9, hy2⟩ := hno
        have hb9 : ((i : Int) == 9) = true := beq_iff_eq.2 (by omega)
        have HV := Lib.hid (HT'.out.trans (take_no (by omega) hi9 hy2))
        clear HT' HX h9
        go_wp2
        go_ret3
        exact ⟨by rw [HV.out]; rfl, rfl⟩
      · have h9y : i = 9 → y ≤ 1 := by omega
        obtain ⟨P, Y, hmul, hsum, HY, HY9, hsc⟩ := group_sum X i S y hy0 hi9 h9y HX.out HS.out
        by_cases h128 : y < 128
        · by_cases h0 : y = 0 ∧ 0 < i
          · have HV := Lib.hid (HT'.out.trans (take_zero (by omega) hy0 h0.2))
            have hyb : (y == 0) = true := beq_iff_eq.2 h0.1
            have hi0 : 0 < i := h0.2
            by_cases h9 : i = 9
            · have hb9 : ((i : Int) == 9) = true := beq_iff_eq.2 (by omega)
              have hy2 : y ≤ 1 := h9y h9
              clear h9 HT' HX HY HY9 h9y hno h0 hsc
              go_wp2
              go_ret3
              exact ⟨by rw [HV.out]; rfl, rfl⟩
            · have hb9 : ((i : Int) == 9) = false := beq_eq_false_iff_ne.2 (by omega)
              clear h9 HT' HX HY HY9 h9y hno h0 hsc
              go_wp2
              go_ret3
              exact ⟨by rw [HV.out]; rfl, rfl⟩
          · have HV := Lib.hid (HT'.out.trans (take_end hy0 h9y h128 (by omega)))
            have fin : ∀ i1 : Int, i1 = (i : Int) + 1 → Ending.returned (.tuple #[.int .u64 (Y : Int), .int .i64 i1, .int .i64 0]) = .returned (.tuple #[.int .u64 ((take 0 0 xs).1 : Int), .int .i64 ((take 0 0 xs).2.1 : Int), .int .i64 ((take 0 0 xs).2.2 : Int)]) := by
              intro i1 h1
              rw [HV.out, ← HY.out, h1]
              rfl
            have FIN := Lib.hid fin
            by_cases hyz : y = 0
            · have hyb : (y == 0) = true := beq_iff_eq.2 hyz
              have hi0 : i ≤ 0 := by omega
              have hb9 : ((i : Int) == 9) = false := beq_eq_false_iff_ne.2 (by omega)
              clear HT' HX HY9 h9y hno h0 hyz fin HV HY hsc
              go_wp2
              go_ret3
              exact ⟨FIN.out _ rfl, rfl⟩
            · have hyb : (y == 0) = false := beq_eq_false_iff_ne.2 hyz
              by_cases h9 : i = 9
              · have hb9 : ((i : Int) == 9) = true := beq_iff_eq.2 (by omega)
                have hy2 : y ≤ 1 := h9y h9
                clear HT' HX HY9 h9y hno h0 hyz fin HV HY h9 hsc
                go_wp2
                go_ret3
                exact ⟨FIN.out _ rfl, rfl⟩
              · have hb9 : ((i : Int) == 9) = false := beq_eq_false_iff_ne.2 (by omega)
                clear HT' HX HY9 h9y hno h0 hyz fin HV HY h9 hsc
                go_wp2
                go_ret3
                exact ⟨FIN.out _ rfl, rfl⟩
        · have h9 : i ≠ 9 := by omega
          have hb9 : ((i : Int) == 9) = false := beq_eq_false_iff_ne.2 (by omega)
          have h128' : 128 ≤ y := by omega
          have HV := Lib.hid (HT'.out.trans (take_on h9y h128'))
          have hs' := hsc (by omega)
          obtain ⟨S', HS'⟩ : ∃ S', Hid (S' = 128 ^ (i + 1)) := ⟨128 ^ (i + 1), Lib.hid rfl⟩
          rw [← HS'.out] at hs'
          clear HT' HX h9y hno h128 hsc
          go_wp2
          go_round
          case rel => exact ⟨i + 1, Y, S', by omega, by omega, HY9.out (by omega), HS', by unfold Hid; rw [HV.out, HY.out], rfl, rfl, by go_num⟩
          case measure => simp [intOf]; omega
    · have hv : take 0 0 xs = (0, 0, 10) := by rw [HT.out, List.drop_eq_nil_of_le (by rw [H.out.len]; omega)]; rfl
      have HV := Lib.hid hv
      clear hv
      go_wp2
      go_ret3
      exact ⟨by rw [HV.out]; rfl, rfl⟩
end Go.Proofs.Ytefnpibikebmdaa.Var
