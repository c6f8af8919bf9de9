/- Take of layer 1 and of its reference, as contracts. -/
import Derived.Test.YtefnpibikebmdaaVarW
namespace Go.Proofs.Ytefnpibikebmdaa
open Go.RowKit

/-- A scope whose one label is jumped back to: what holds at the label, at the first time and at every jump; a measure that each pass lowers. -/
theorem scope_back {P : Program} {a : Act} {w : World} {Q : Exit → Act → World → Prop} {c rest : Code} (l : Nat) (J : Act → World → Prop) (μ : Act → World → Nat) (hf : findLabel c l = some (.seq .skip rest))
    (first : ∀ Q' : Exit → Act → World → Prop, (∀ a w, J a w → rest.wp P Q' a w) → c.wp P Q' a w)
    (pass : ∀ a w, J a w → rest.wp P (Exit.jump l (fun a' w' => J a' w' ∧ μ a' w' < μ a w) Q) a w) : (Code.scope c).wp P Q a w := by
  refine wp_scope_jumps l J μ hf (first _ fun a w hJ => wp_mono (pass a w hJ) ?_) (fun a w hJ => wp_seq (wp_skip (pass a w hJ)))
  intro e a' w' h
  cases e <;> first | exact ⟨h.1, h.2.1⟩ | exact h

namespace Var

/-- What holds at Take's label. -/
def AtNext (A : Option Addr) (n c : Nat) (xs : List Int) (w : World) (a' : Act) (w' : World) : Prop :=
  w = w' ∧ ∃ (i X : Nat) (u7 u8 u9 u10 u11 u12 u13 u14 u15 u16 u17 u18 u19 u20 u21 u22 u23 u24 u25 u26 u27 u28 u29 u30 u31 u32 u33 u34 u35 u36 u37 u38 u39 u40 u41 : Value), i ≤ n ∧ i ≤ 9 ∧ X < 128 ^ i ∧ take 0 0 xs = take X i (xs.drop i) ∧
      a' = { tmps := #[.slice A n c, undef, .int .u64 0, .int .i64 0, .int .i64 0, .int .u64 (X : Int), .int .i64 (i : Int), u7, u8, u9, u10, u11, u12, u13, u14, u15, u16, u17, u18, u19, u20, u21, u22, u23, u24, u25, u26, u27, u28, u29, u30, u31, u32, u33, u34, u35, u36, u37, u38, u39, u40, u41], defers := [] }
def left (n : Nat) (a' : Act) : Nat := n - (intOf (a'.tmps.getD 6 undef)).toNat

/-- One group of seven bits more. -/
theorem group (X i : Nat) (y : Int) (h0 : 0 ≤ y) (hi : i ≤ 9) (h9 : i = 9 → y ≤ 1) (hX : X < 128 ^ i) :
    bits .or .u64 (X : Int) (IntKind.u64.wrap (y % 128 * 2 ^ (7 * i))) = ((X + y.toNat % 128 * 128 ^ i : Nat) : Int) ∧ (i < 9 → X + y.toNat % 128 * 128 ^ i < 128 ^ (i + 1)) ∧ X + y.toNat % 128 * 128 ^ i < 18446744073709551616 := by
  obtain ⟨d, rfl⟩ := Int.eq_ofNat_of_zero_le h0
  have hm : d % 128 ≤ 127 := by omega
  have h1 : X + d % 128 * 128 ^ i < 128 ^ (i + 1) := by
    have := Nat.mul_le_mul_right (128 ^ i) hm
    rw [Nat.pow_succ]
    omega
  have h2 : X + d % 128 * 128 ^ i < 18446744073709551616 := by
    by_cases e : i = 9
    · subst e
      have := h9 rfl
      have hd : d % 128 ≤ 1 := by omega
      have := Nat.mul_le_mul_right (128 ^ 9) hd
      omega
    · have : 128 ^ (i + 1) ≤ 128 ^ 9 := Nat.pow_le_pow_right (by omega) (by omega)
      omega
  have e1 : ((d : Int) % 128 * 2 ^ (7 * i)) = ((d % 128 * 128 ^ i : Nat) : Int) := by
    have := pow7 i
    rw [← this]
    simp
  have e2 : (d : Int).toNat = d := by simp
  rw [e1, e2]
  refine ⟨?_, fun _ => h1, h2⟩
  rw [IntWalk.u64_in _ ⟨by omega, by omega⟩, u64_or_nat _ _ (by omega) (by omega)]
  congr 1
  have := or_group X (d % 128) i (by rw [pow7]; exact hX)
  rw [pow7] at this
  exact this

theorem take_no {X i : Nat} {y : Int} {cs : List Int} (h9 : 9 ≤ i) (hi : i ≤ 9) (hy : 1 < y) : take X i (y :: cs) = (0, 0, 11) := by
  simp only [take]; rw [if_pos ⟨by omega, hy⟩]
theorem take_zero {X i : Nat} {y : Int} {cs : List Int} (hy : y ≤ 0) (h0 : 0 ≤ y) (hi : 0 < i) : take X i (y :: cs) = (0, 0, 11) := by
  simp only [take]; rw [if_neg (by omega), if_pos (by omega), if_pos ⟨by omega, hi⟩]
theorem take_end {X i : Nat} {y : Int} {cs : List Int} (h0 : 0 ≤ y) (h9 : i = 9 → y ≤ 1) (hy : y < 128) (hz : y = 0 → i = 0) : take X i (y :: cs) = (X + y.toNat % 128 * 128 ^ i, i + 1, 0) := by
  simp only [take]; rw [if_neg (by omega), if_pos hy, if_neg (by omega)]
theorem take_on {X i : Nat} {y : Int} {cs : List Int} (h9 : i = 9 → y ≤ 1) (hy : 128 ≤ y) : take X i (y :: cs) = take (X + y.toNat % 128 * 128 ^ i) (i + 1) cs := by
  simp only [take]; rw [if_neg (by omega), if_neg (by omega)]

set_option maxHeartbeats 3200000 in
set_option maxRecDepth 100000 in
theorem take_any (A : Option Addr) (n c B : Nat) (xs : List Int) (w : World) (h : Row .u8 w B A n xs) (hb : ∀ x ∈ xs, 0 ≤ x ∧ x ≤ 255) :
    Calls Try.prog 45 #[.slice A n c] w fun e w' =>
      e = .returned (.tuple #[.int .u64 ((take 0 0 xs).1 : Int), .int .i64 ((take 0 0 xs).2.1 : Int), .int .i64 ((take 0 0 xs).2.2 : Int)]) ∧ w = w' := by
  have H := Lib.hid h
  have HB := Lib.hid hb
  clear h hb
  go_enter Try.func45, Try.ntmps45
  go_wp2
  refine scope_back 0 (AtNext A n c xs w) (fun a' _ => left n a') rfl ?_ ?_
  · intro Q' hQ
    have HQ := Lib.hid hQ
    clear hQ
    go_wp2
    go_step3
    rename_i hK
    exact hK _ _ (HQ.out _ _ ⟨rfl, 0, 0, _, _, _, _, _, _, _, _, _, _, _, _, _, _, _, _, _, _, _, _, _, _, _, _, _, _, _, _, _, _, _, _, _, _, _, Nat.zero_le _, by omega, by simp, rfl, rfl⟩)
  · rintro a' w' ⟨hw, i, X, u7, u8, u9, u10, u11, u12, u13, u14, u15, u16, u17, u18, u19, u20, u21, u22, u23, u24, u25, u26, u27, u28, u29, u30, u31, u32, u33, u34, u35, u36, u37, u38, u39, u40, u41, hi, hi9, hX, hT, rfl⟩
    obtain rfl := hw
    have HT := Lib.hid hT
    have HX := Lib.hid hX
    clear hT hX
    by_cases hlt : i < n
    · obtain ⟨b, o, rfl, _, hcell⟩ := H.out.cell_at hlt
      have hxi : i < xs.length := by rw [H.out.len]; exact hlt
      have hy := HB.out (xs.getD i 0) (by simp [List.getD, hxi])
      have HT' : Hid (take 0 0 xs = take X i (xs.getD i 0 :: xs.drop (i + 1))) := by
        unfold Hid; rw [HT.out, List.drop_eq_getElem_cons hxi]; simp [List.getD, hxi]
      clear HT
      generalize xs.getD i 0 = y at *
      obtain ⟨hy0, hy1⟩ := hy
      by_cases hno : i = 9 ∧ 1 < y
      · obtain ⟨h9, hy2⟩ := hno
        have hb9 : ((i : Int) == 9) = true := beq_iff_eq.2 (by omega)
        have HV := Lib.hid (HT'.out.trans (take_no (by omega) hi9 hy2))
        clear HT' HX h9
        go_wp2
        simp only [Exit.jump]
        go_ret3
        exact ⟨by rw [HV.out]; rfl, rfl⟩
      · have h9y : i = 9 → y ≤ 1 := by omega
        have G := group X i y hy0 hi9 h9y HX.out
        obtain ⟨Y, hY⟩ : ∃ Y, Y = X + y.toNat % 128 * 128 ^ i := ⟨_, rfl⟩
        rw [← hY] at G
        obtain ⟨hor, hY9, hY64⟩ := G
        have HY9 := Lib.hid hY9
        by_cases h128 : y < 128
        · by_cases h0 : y = 0 ∧ 0 < i
          · have HV := Lib.hid (HT'.out.trans (take_zero (by omega) hy0 h0.2))
            have hyb : (y == 0) = true := beq_iff_eq.2 h0.1
            have hi0 : 0 < i := h0.2
            clear HT' HX hY hY9 hY64 HY9 h9y hno h0
            by_cases h9 : i = 9
            · have hb9 : ((i : Int) == 9) = true := beq_iff_eq.2 (by omega)
              have hy2 : y ≤ 1 := by have := beq_iff_eq.1 hyb; omega
              clear h9
              go_wp2
              simp only [Exit.jump]
              go_ret3
              exact ⟨by rw [HV.out]; rfl, rfl⟩
            · have hb9 : ((i : Int) == 9) = false := beq_eq_false_iff_ne.2 (by omega)
              clear h9
              go_wp2
              simp only [Exit.jump]
              go_ret3
              exact ⟨by rw [HV.out]; rfl, rfl⟩
          · have HV := Lib.hid (HT'.out.trans (take_end hy0 h9y h128 (by omega)))
            have HY := Lib.hid hY
            have fin : ∀ i1 : Int, i1 = (i : Int) + 1 → Ending.returned (.tuple #[.int .u64 (Y : Int), .int .i64 i1, .int .i64 0]) = .returned (.tuple #[.int .u64 ((take 0 0 xs).1 : Int), .int .i64 ((take 0 0 xs).2.1 : Int), .int .i64 ((take 0 0 xs).2.2 : Int)]) := by
              intro i1 h1
              rw [HV.out, ← HY.out, h1]
              rfl
            have FIN := Lib.hid fin
            by_cases hyz : y = 0
            · have hyb : (y == 0) = true := beq_iff_eq.2 hyz
              have hi0 : i ≤ 0 := by omega
              have hb9 : ((i : Int) == 9) = false := beq_eq_false_iff_ne.2 (by omega)
              clear HT' HX hY hY9 hY64 HY9 h9y hno h0 hyz fin HV HY
              go_wp2
              simp only [Exit.jump]
              go_ret3
              exact ⟨FIN.out _ rfl, rfl⟩
            · have hyb : (y == 0) = false := beq_eq_false_iff_ne.2 hyz
              by_cases h9 : i = 9
              · have hb9 : ((i : Int) == 9) = true := beq_iff_eq.2 (by omega)
                have hy2 : y ≤ 1 := h9y h9
                clear HT' HX hY hY9 hY64 HY9 h9y hno h0 hyz fin HV HY h9
                go_wp2
                simp only [Exit.jump]
                go_ret3
                exact ⟨FIN.out _ rfl, rfl⟩
              · have hb9 : ((i : Int) == 9) = false := beq_eq_false_iff_ne.2 (by omega)
                clear HT' HX hY hY9 hY64 HY9 h9y hno h0 hyz fin HV HY h9
                go_wp2
                simp only [Exit.jump]
                go_ret3
                exact ⟨FIN.out _ rfl, rfl⟩
        · have h9 : i ≠ 9 := by omega
          have hb9 : ((i : Int) == 9) = false := beq_eq_false_iff_ne.2 (by omega)
          have h128' : 128 ≤ y := by omega
          have HV := Lib.hid (HT'.out.trans (take_on h9y h128'))
          have HY := Lib.hid hY
          clear HT' HX hY hY9 hY64 h9y hno h128
          go_wp2
          go_step3
          have ei : (i : Int) + 1 = ((i + 1 : Nat) : Int) := by omega
          rw [ei]
          exact ⟨rfl, ⟨rfl, i + 1, Y, _, _, _, _, _, _, _, _, _, _, _, _, _, _, _, _, _, _, _, _, _, _, _, _, _, _, _, _, _, _, _, _, _, _, _, by omega, by omega, HY9.out (by omega), by rw [HV.out, HY.out], rfl⟩, by simp [left, intOf]; omega⟩
    · have hv : take 0 0 xs = (0, 0, 10) := by rw [HT.out, List.drop_eq_nil_of_le (by rw [H.out.len]; omega)]; rfl
      have HV := Lib.hid hv
      clear hv
      go_wp2
      simp only [Exit.jump]
      go_ret3
      exact ⟨by rw [HV.out]; rfl, rfl⟩
end Var
end Go.Proofs.Ytefnpibikebmdaa
