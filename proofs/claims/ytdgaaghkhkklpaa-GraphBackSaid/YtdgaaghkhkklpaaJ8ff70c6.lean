/- Lemmas that the proof stands on, in build order: VarW VarT VarR. -/
import Derived.Test.YtdgaaghkhkklpaaProg
import Derived.WalkKit
import Derived.KernelRfl
import Derived.Deep.QuietTactic
import Derived.BigQuiet
import Derived.WalkMore
import Derived.ScopeJumps
import Derived.Test.YtdgaaghkhkklpaaJ14943df
import Derived.Test.YtdgaaghkhkklpaaJ63e688c
/- What the functions of layer 1 (varint) and of its reference return, each for every input, as contracts over the program. -/
namespace Go.Proofs.Ytdgaaghkhkklpaa.Var
open Go.RowKit

theorem info_u8 : (Try.prog.info? 5).map (fun i => (i.zero, i.size, i.bytes)) = some (some (.int .u8 0), 1, 1) := by kernel_rfl

def PutsTo (n : Nat) (w : World) (e : Ending) (w' : World) : Prop :=
  ∃ v, e = .returned v ∧ w'.ownsRow w.heap.size 5 1 v (put n).length ((put n).map (Value.int .u8)) ∧ Below w.heap.size w w'

set_option maxHeartbeats 800000 in
set_option maxRecDepth 100000 in
theorem put_any (n : Nat) (hn : n < 18446744073709551616) (w : World) :
    Calls Try.prog 41 #[.int .u64 (n : Int)] w (PutsTo n w) := by
  obtain ⟨i0, hi, hz0, hz1, hz2⟩ := info_parts info_u8
  have hL := put_len10 hn
  have HN := Lib.hid hn
  clear hn
  go_enter Try.func41, Try.ntmps41
  go_wp2
  go_loopw [0, 3] (fun a v wr => ∃ (m : Nat) (xs : List Int), a = .int .u64 (m : Int) ∧ m ≤ n ∧ Hid (put n = xs ++ put m) ∧ wr.ownsRow w.heap.size 5 1 v xs.length (xs.map (Value.int .u8)) ∧ Below w.heap.size w wr)
    (fun a _ _ => (intOf a).toNat)
  case atStart => exact ⟨n, [], rfl, Nat.le_refl _, rfl, World.ownsRow_nil _ _ _ _, Below.refl _ _⟩
  case round =>
    obtain ⟨m, xs, rfl, hm, HP, hown, hbl⟩ := hrel
    have hsz := hbl.size
    have hpl : xs.length + (put m).length ≤ 10 := by
      have := congrArg List.length HP.out
      simp at this
      omega
    have hpp := put_pos m
    by_cases hlt : m < 128
    · have hw8 : IntKind.u8.wrap (m : Int) = (m : Int) := by rw [IntKind.wrap_u8']; omega
      have Hm := Lib.hid (put_last hlt)
      go_wp2_with (at_builtin; refine push_own rfl (.tmp 15) (.tmp 18) 26 rfl w.heap.size 5 i0 .u8 1 Try.underlying26 hi hz0 hz1 hz2 _ xs.length xs (m : Int) rfl hown rfl (by omega) (by omega) hsz ?_; intro v1 w1 hown1 hb1)
      go_ret
      exact ⟨v1, rfl, by rw [HP.out, Hm.out]; simpa using hown1, hbl.trans hb1⟩
    · have hd : m / 128 ≤ n := by omega
      have Hm := Lib.hid (put_more hlt)
      have hw8 : IntKind.u8.wrap ((m : Int) % 128) = (m : Int) % 128 := by rw [IntKind.wrap_u8']; omega
      have hwd : IntKind.u64.wrap ((m : Int) / 128) = (m : Int) / 128 := IntWalk.u64_in _ ⟨by omega, by have := HN.out; omega⟩
      have hor := u8_or128_right ((m : Int) % 128) (by omega) (by omega)
      go_wp2_with (at_builtin; refine push_own rfl (.tmp 6) (.tmp 11) 26 rfl w.heap.size 5 i0 .u8 1 Try.underlying26 hi hz0 hz1 hz2 _ xs.length xs ((m : Int) % 128 + 128) rfl hown rfl (by omega) (by omega) hsz ?_; intro v1 w1 hown1 hb1)
      go_roundw
      case rel => exact ⟨m / 128, xs ++ [((m % 128 : Nat) : Int) + 128], by go_num, hd, by unfold Hid; rw [HP.out, Hm.out]; simp, by simpa using hown1, hbl.trans hb1⟩
      case measure => simp [intOf]; omega

set_option maxHeartbeats 800000 in
set_option maxRecDepth 100000 in
theorem refput_any (n : Nat) (hn : n < 18446744073709551616) (w : World) :
    Calls Try.prog 48 #[.int .u64 (n : Int)] w (PutsTo n w) := by
  obtain ⟨i0, hi, hz0, hz1, hz2⟩ := info_parts info_u8
  have hL := put_len10 hn
  have HN := Lib.hid hn
  clear hn
  go_enter Try.func48, Try.ntmps48
  go_wp2
  go_loopw [0, 3] (fun a v wr => ∃ (m : Nat) (xs : List Int), a = .int .u64 (m : Int) ∧ m ≤ n ∧ Hid (put n = xs ++ put m) ∧ wr.ownsRow w.heap.size 5 1 v xs.length (xs.map (Value.int .u8)) ∧ Below w.heap.size w wr)
    (fun a _ _ => (intOf a).toNat)
  case atStart => exact ⟨n, [], rfl, Nat.le_refl _, rfl, World.ownsRow_nil _ _ _ _, Below.refl _ _⟩
  case round =>
    obtain ⟨m, xs, rfl, hm, HP, hown, hbl⟩ := hrel
    have hsz := hbl.size
    have hpl : xs.length + (put m).length ≤ 10 := by
      have := congrArg List.length HP.out
      simp at this
      omega
    have hpp := put_pos m
    by_cases hlt : m < 128
    · have hw8 : IntKind.u8.wrap (m : Int) = (m : Int) := by rw [IntKind.wrap_u8']; omega
      have Hm := Lib.hid (put_last hlt)
      go_wp2_with (at_builtin; refine push_own rfl (.tmp 15) (.tmp 18) 26 rfl w.heap.size 5 i0 .u8 1 Try.underlying26 hi hz0 hz1 hz2 _ xs.length xs (m : Int) rfl hown rfl (by omega) (by omega) hsz ?_; intro v1 w1 hown1 hb1)
      go_ret
      exact ⟨v1, rfl, by rw [HP.out, Hm.out]; simpa using hown1, hbl.trans hb1⟩
    · have hd : m / 128 ≤ n := by omega
      have Hm := Lib.hid (put_more hlt)
      have hw6 : IntKind.u64.wrap (128 + (m : Int) % 128) = 128 + (m : Int) % 128 := IntWalk.u64_in _ ⟨by omega, by omega⟩
      have hw8 : IntKind.u8.wrap (128 + (m : Int) % 128) = (m : Int) % 128 + 128 := by rw [IntKind.wrap_u8']; omega
      have hwd : IntKind.u64.wrap ((m : Int) / 128) = (m : Int) / 128 := IntWalk.u64_in _ ⟨by omega, by have := HN.out; omega⟩
      go_wp2_with (at_builtin; refine push_own rfl (.tmp 6) (.tmp 11) 26 rfl w.heap.size 5 i0 .u8 1 Try.underlying26 hi hz0 hz1 hz2 _ xs.length xs ((m : Int) % 128 + 128) rfl hown rfl (by omega) (by omega) hsz ?_; intro v1 w1 hown1 hb1)
      go_roundw
      case rel => exact ⟨m / 128, xs ++ [((m % 128 : Nat) : Int) + 128], by go_num, hd, by unfold Hid; rw [HP.out, Hm.out]; simp, by simpa using hown1, hbl.trans hb1⟩
      case measure => simp [intOf]; omega

set_option maxHeartbeats 800000 in
set_option maxRecDepth 100000 in
/-- Two slices that read alike are the same. -/
theorem same_yes (A A' : Option Addr) (n c c' B B' : Nat) (xs : List Int) (w : World) (hn : n ≤ 4398046511104) (h1 : Row .u8 w B A n xs) (h2 : Row .u8 w B' A' n xs) :
    Calls Try.prog 11 #[.slice A n c, .slice A' n c'] w fun e w' => e = .returned (.bool true) ∧ ∃ q, w' = w.drewN q := by
  have H1 := Lib.hid h1
  have H2 := Lib.hid h2
  clear h1 h2
  go_enter Try.func11, Try.ntmps11
  go_wp2
  go_loopw [5] (fun i wr => ∃ k q : Nat, k ≤ n ∧ i = .int .i64 (k : Int) ∧ Hid (wr = w.drewN q)) (fun i _ => n - (intOf i).toNat)
  case atStart => exact ⟨0, 0, Nat.zero_le _, rfl, rfl⟩
  case round =>
    obtain ⟨k, q, hk, rfl, hw⟩ := hrel
    obtain rfl := hw.out
    clear hw
    by_cases hlt : k < n
    · obtain ⟨b, o, rfl, _, hc1⟩ := H1.out.cell_at hlt
      obtain ⟨b', o', rfl, _, hc2⟩ := H2.out.cell_at hlt
      go_wp2
      go_quiet (fail)
      go_wp2
      go_roundw
      case rel => exact ⟨k + 1, _, by omega, by go_num, by unfold Hid; rfl⟩
      case measure => simp [intOf]; omega
    · go_wp2
      go_ret
      exact ⟨rfl, _, rfl⟩
end Go.Proofs.Ytdgaaghkhkklpaa.Var

/- Take of layer 1 and of its reference, as contracts. -/
namespace Go.Proofs.Ytdgaaghkhkklpaa
open Go.RowKit

/-- A scope whose one label is jumped back to: what holds at the label, at the first time and at every jump; a measure that each pass lowers. -/
theorem scope_back {P : Program} {a : Act} {w : World} {Q : Exit → Act → World → Prop} {c rest : Code} (l : Nat) (J : Act → World → Prop) (μ : Act → World → Nat) (hf : findLabel c l = some (.seq .skip rest))
    (first : ∀ Q' : Exit → Act → World → Prop, (∀ a w, J a w → rest.wp P Q' a w) → c.wp P Q' a w)
    (pass : ∀ a w, J a w → rest.wp P (Exit.jump l (fun a' w' => J a' w' ∧ μ a' w' < μ a w) Q) a w) : (Code.scope c).wp P Q a w := by
  refine wp_scope_jumps l J μ hf (first _ fun a w hJ => wp_mono (pass a w hJ) ?_) (fun a w hJ => wp_seq (wp_skip (pass a w hJ)))
  intro e a' w' h
  cases e <;> first | exact ⟨h.1, h.2.1⟩ | exact h

namespace Var

/-- What holds at Take's label. -/
def AtNext (A : Option Addr) (n c : Nat) (xs : List Int) (w : World) (a' : Act) (w' : World) : Prop :=
  w = w' ∧ ∃ (i X : Nat) (u7 u8 u9 u10 u11 u12 u13 u14 u15 u16 u17 u18 u19 u20 u21 u22 u23 u24 u25 u26 u27 u28 u29 u30 u31 u32 u33 u34 u35 u36 u37 u38 u39 u40 u41 : Value), i ≤ n ∧ i ≤ 9 ∧ X < 128 ^ i ∧ take 0 0 xs = take X i (xs.drop i) ∧
      a' = { tmps := #[.slice A n c, undef, .int .u64 0, .int .i64 0, .int .i64 0, .int .u64 (X : Int), .int .i64 (i : Int), u7, u8, u9, u10, u11, u12, u13, u14, u15, u16, u17, u18, u19, u20, u21, u22, u23, u24, u25, u26, u27, u28, u29, u30, u31, u32, u33, u34, u35, u36, u37, u38, u39, u40, u41], defers := [] }
def left (n : Nat) (a' : Act) : Nat := n - (intOf (a'.tmps.getD 6 undef)).toNat

/-- One group of seven bits more. -/
theorem group (X i : Nat) (y : Int) (h0 : 0 ≤ y) (hi : i ≤ 9) (h9 : i = 9 → y ≤ 1) (hX : X < 128 ^ i) :
    bits .or .u64 (X : Int) (IntKind.u64.wrap (y % 128 * 2 ^ (7 * i))) = ((X + y.toNat % 128 * 128 ^ i : Nat) : Int) ∧ (i < 9 → X + y.toNat % 128 * 128 ^ i < 128 ^ (i + 1)) ∧ X + y.toNat % 128 * 128 ^ i < 18446744073709551616 := by
  obtain ⟨d, rfl⟩ := Int.eq_ofNat_of_zero_le h0
  have hm : d % 128 ≤ 127 := by omega
  have h1 : X + d % 128 * 128 ^ i < 128 ^ (i + 1) := by
    have := Nat.mul_le_mul_right (128 ^ i) hm
    rw [Nat.pow_succ]
    omega
  have h2 : X + d % 128 * 128 ^ i < 18446744073709551616 := by
    by_cases e : i = 9
    · subst e
      have := h9 rfl
      have hd : d % 128 ≤ 1 := by omega
      have := Nat.mul_le_mul_right (128 ^ 9) hd
      omega
    · have : 128 ^ (i + 1) ≤ 128 ^ 9 := Nat.pow_le_pow_right (by omega) (by omega)
      omega
  have e1 : ((d : Int) % 128 * 2 ^ (7 * i)) = ((d % 128 * 128 ^ i : Nat) : Int) := by
    have := pow7 i
    rw [← this]
    simp
  have e2 : (d : Int).toNat = d := by simp
  rw [e1, e2]
  refine ⟨?_, fun _ => h1, h2⟩
  rw [IntWalk.u64_in _ ⟨by omega, by omega⟩, u64_or_nat _ _ (by omega) (by omega)]
  congr 1
  have := or_group X (d % 128) i (by rw [pow7]; exact hX)
  rw [pow7] at this
  exact this

theorem take_no {X i : Nat} {y : Int} {cs : List Int} (h9 : 9 ≤ i) (hi : i ≤ 9) (hy : 1 < y) : take X i (y :: cs) = (0, 0, 11) := by
  simp only [take]; rw [if_pos ⟨by omega, hy⟩]
theorem take_zero {X i : Nat} {y : Int} {cs : List Int} (hy : y ≤ 0) (h0 : 0 ≤ y) (hi : 0 < i) : take X i (y :: cs) = (0, 0, 11) := by
  simp only [take]; rw [if_neg (by omega), if_pos (by omega), if_pos ⟨by omega, hi⟩]
theorem take_end {X i : Nat} {y : Int} {cs : List Int} (h0 : 0 ≤ y) (h9 : i = 9 → y ≤ 1) (hy : y < 128) (hz : y = 0 → i = 0) : take X i (y :: cs) = (X + y.toNat % 128 * 128 ^ i, i + 1, 0) := by
  simp only [take]; rw [if_neg (by omega), if_pos hy, if_neg (by omega)]
theorem take_on {X i : Nat} {y : Int} {cs : List Int} (h9 : i = 9 → y ≤ 1) (hy : 128 ≤ y) : take X i (y :: cs) = take (X + y.toNat % 128 * 128 ^ i) (i + 1) cs := by
  simp only [take]; rw [if_neg (by omega), if_neg (by omega)]

set_option maxHeartbeats 3200000 in
set_option maxRecDepth 100000 in
theorem take_any (A : Option Addr) (n c B : Nat) (xs : List Int) (w : World) (h : Row .u8 w B A n xs) (hb : ∀ x ∈ xs, 0 ≤ x ∧ x ≤ 255) :
    Calls Try.prog 65 #[.slice A n c] w fun e w' =>
      e = .returned (.tuple #[.int .u64 ((take 0 0 xs).1 : Int), .int .i64 ((take 0 0 xs).2.1 : Int), .int .i64 ((take 0 0 xs).2.2 : Int)]) ∧ w = w' := by
  have H := Lib.hid h
  have HB := Lib.hid hb
  clear h hb
  go_enter Try.func65, Try.ntmps65
  go_wp2
  refine scope_back 0 (AtNext A n c xs w) (fun a' _ => left n a') rfl ?_ ?_
  · intro Q' hQ
    have HQ := Lib.hid hQ
    clear hQ
    go_wp2
    go_step3
    rename_i hK
    exact hK _ _ (HQ.out _ _ ⟨rfl, 0, 0, _, _, _, _, _, _, _, _, _, _, _, _, _, _, _, _, _, _, _, _, _, _, _, _, _, _, _, _, _, _, _, _, _, _, _, Nat.zero_le _, by omega, by simp, rfl, rfl⟩)
  · rintro a' w' ⟨hw, i, X, u7, u8, u9, u10, u11, u12, u13, u14, u15, u16, u17, u18, u19, u20, u21, u22, u23, u24, u25, u26, u27, u28, u29, u30, u31, u32, u33, u34, u35, u36, u37, u38, u39, u40, u41, hi, hi9, hX, hT, rfl⟩
    obtain rfl := hw
    have HT := Lib.hid hT
    have HX := Lib.hid hX
    clear hT hX
    by_cases hlt : i < n
    · obtain ⟨b, o, rfl, _, hcell⟩ := H.out.cell_at hlt
      have hxi : i < xs.length := by rw [H.out.len]; exact hlt
      have hy := HB.out (xs.getD i 0) (by simp [List.getD, hxi])
      have HT' : Hid (take 0 0 xs = take X i (xs.getD i 0 :: xs.drop (i + 1))) := by
        unfold Hid; rw [HT.out, List.drop_eq_getElem_cons hxi]; simp [List.getD, hxi]
      clear HT
      generalize xs.getD i 0 = y at *
      obtain ⟨hy0, hy1⟩ := hy
      by_cases hno : i = 9 ∧ 1 < y
      · obtain ⟨h9, hy2⟩ := hno
        have hb9 : ((i : Int) == 9) = true := beq_iff_eq.2 (by omega)
        have HV := Lib.hid (HT'.out.trans (take_no (by omega) hi9 hy2))
        clear HT' HX h9
        go_wp2
        simp only [Exit.jump]
        go_ret3
        exact ⟨by rw [HV.out]; rfl, rfl⟩
      · have h9y : i = 9 → y ≤ 1 := by omega
        have G := group X i y hy0 hi9 h9y HX.out
        obtain ⟨Y, hY⟩ : ∃ Y, Y = X + y.toNat % 128 * 128 ^ i := ⟨_, rfl⟩
        rw [← hY] at G
        obtain ⟨hor, hY9, hY64⟩ := G
        have HY9 := Lib.hid hY9
        by_cases h128 : y < 128
        · by_cases h0 : y = 0 ∧ 0 < i
          · have HV := Lib.hid (HT'.out.trans (take_zero (by omega) hy0 h0.2))
            have hyb : (y == 0) = true := beq_iff_eq.2 h0.1
            have hi0 : 0 < i := h0.2
            clear HT' HX hY hY9 hY64 HY9 h9y hno h0
            by_cases h9 : i = 9
            · have hb9 : ((i : Int) == 9) = true := beq_iff_eq.2 (by omega)
              have hy2 : y ≤ 1 := by have := beq_iff_eq.1 hyb; omega
              clear h9
              go_wp2
              simp only [Exit.jump]
              go_ret3
              exact ⟨by rw [HV.out]; rfl, rfl⟩
            · have hb9 : ((i : Int) == 9) = false := beq_eq_false_iff_ne.2 (by omega)
              clear h9
              go_wp2
              simp only [Exit.jump]
              go_ret3
              exact ⟨by rw [HV.out]; rfl, rfl⟩
          · have HV := Lib.hid (HT'.out.trans (take_end hy0 h9y h128 (by omega)))
            have HY := Lib.hid hY
            have fin : ∀ i1 : Int, i1 = (i : Int) + 1 → Ending.returned (.tuple #[.int .u64 (Y : Int), .int .i64 i1, .int .i64 0]) = .returned (.tuple #[.int .u64 ((take 0 0 xs).1 : Int), .int .i64 ((take 0 0 xs).2.1 : Int), .int .i64 ((take 0 0 xs).2.2 : Int)]) := by
              intro i1 h1
              rw [HV.out, ← HY.out, h1]
              rfl
            have FIN := Lib.hid fin
            by_cases hyz : y = 0
            · have hyb : (y == 0) = true := beq_iff_eq.2 hyz
              have hi0 : i ≤ 0 := by omega
              have hb9 : ((i : Int) == 9) = false := beq_eq_false_iff_ne.2 (by omega)
              clear HT' HX hY hY9 hY64 HY9 h9y hno h0 hyz fin HV HY
              go_wp2
              simp only [Exit.jump]
              go_ret3
              exact ⟨FIN.out _ rfl, rfl⟩
            · have hyb : (y == 0) = false := beq_eq_false_iff_ne.2 hyz
              by_cases h9 : i = 9
              · have hb9 : ((i : Int) == 9) = true := beq_iff_eq.2 (by omega)
                have hy2 : y ≤ 1 := h9y h9
                clear HT' HX hY hY9 hY64 HY9 h9y hno h0 hyz fin HV HY h9
                go_wp2
                simp only [Exit.jump]
                go_ret3
                exact ⟨FIN.out _ rfl, rfl⟩
              · have hb9 : ((i : Int) == 9) = false := beq_eq_false_iff_ne.2 (by omega)
                clear HT' HX hY hY9 hY64 HY9 h9y hno h0 hyz fin HV HY h9
                go_wp2
                simp only [Exit.jump]
                go_ret3
                exact ⟨FIN.out _ rfl, rfl⟩
        · have h9 : i ≠ 9 := by omega
          have hb9 : ((i : Int) == 9) = false := beq_eq_false_iff_ne.2 (by omega)
          have h128' : 128 ≤ y := by omega
          have HV := Lib.hid (HT'.out.trans (take_on h9y h128'))
          have HY := Lib.hid hY
          clear HT' HX hY hY9 hY64 h9y hno h128
          go_wp2
          go_step3
          have ei : (i : Int) + 1 = ((i + 1 : Nat) : Int) := by omega
          rw [ei]
          exact ⟨rfl, ⟨rfl, i + 1, Y, _, _, _, _, _, _, _, _, _, _, _, _, _, _, _, _, _, _, _, _, _, _, _, _, _, _, _, _, _, _, _, _, _, _, _, by omega, by omega, HY9.out (by omega), by rw [HV.out, HY.out], rfl⟩, by simp [left, intOf]; omega⟩
    · have hv : take 0 0 xs = (0, 0, 10) := by rw [HT.out, List.drop_eq_nil_of_le (by rw [H.out.len]; omega)]; rfl
      have HV := Lib.hid hv
      clear hv
      go_wp2
      simp only [Exit.jump]
      go_ret3
      exact ⟨by rw [HV.out]; rfl, rfl⟩
end Var
end Go.Proofs.Ytdgaaghkhkklpaa

/- The reference's Take of layer 1, as a contract. -/
namespace Go.Proofs.Ytdgaaghkhkklpaa.Var
open Go.RowKit

theorem group_sum (X i S : Nat) (y : Int) (h0 : 0 ≤ y) (hi : i ≤ 9) (h9 : i = 9 → y ≤ 1) (hX : X < 128 ^ i) (hS : S = 128 ^ i) :
    ∃ P Y : Nat, IntKind.u64.wrap (y % 128 * (S : Int)) = (P : Int) ∧ IntKind.u64.wrap ((X : Int) + (P : Int)) = (Y : Int) ∧ Hid (Y = X + y.toNat % 128 * 128 ^ i) ∧ Hid (i < 9 → Y < 128 ^ (i + 1)) ∧
      (i < 9 → IntKind.u64.wrap ((S : Int) * 128) = ((128 ^ (i + 1) : Nat) : Int)) := by
  subst hS
  obtain ⟨-, g1, g2⟩ := group X i y h0 hi h9 hX
  obtain ⟨d, rfl⟩ := Int.eq_ofNat_of_zero_le h0
  have e2 : (d : Int).toNat = d := by simp
  rw [e2] at g1 g2 ⊢
  have e1 : (d : Int) % 128 * ((128 ^ i : Nat) : Int) = ((d % 128 * 128 ^ i : Nat) : Int) := by simp
  refine ⟨d % 128 * 128 ^ i, X + d % 128 * 128 ^ i, ?_, ?_, rfl, g1, fun h => ?_⟩
  · rw [e1]; exact IntWalk.u64_in _ ⟨by omega, by omega⟩
  · rw [IntWalk.u64_in _ ⟨by omega, by omega⟩]; omega
  · have hp : 128 ^ (i + 1) ≤ 128 ^ 9 := Nat.pow_le_pow_right (by omega) (by omega)
    have e3 : ((128 ^ i : Nat) : Int) * 128 = ((128 ^ (i + 1) : Nat) : Int) := by rw [Nat.pow_succ]; simp
    rw [e3]
    exact IntWalk.u64_in _ ⟨by omega, by omega⟩

set_option maxHeartbeats 3200000 in
set_option maxRecDepth 100000 in
theorem reftake_any (A : Option Addr) (n c B : Nat) (xs : List Int) (w : World) (h : Row .u8 w B A n xs) (hb : ∀ x ∈ xs, 0 ≤ x ∧ x ≤ 255) :
    Calls Try.prog 70 #[.slice A n c] w fun e w' =>
      e = .returned (.tuple #[.int .u64 ((take 0 0 xs).1 : Int), .int .i64 ((take 0 0 xs).2.1 : Int), .int .i64 ((take 0 0 xs).2.2 : Int)]) ∧ w = w' := by
  have H := Lib.hid h
  have HB := Lib.hid hb
  clear h hb
  go_enter Try.func70, Try.ntmps70
  go_wp2
  go_loop [5, 6, 7] (fun a s t => ∃ i X S : Nat, i ≤ n ∧ i ≤ 9 ∧ Hid (X < 128 ^ i) ∧ Hid (S = 128 ^ i) ∧ Hid (take 0 0 xs = take X i (xs.drop i)) ∧ a = .int .u64 (X : Int) ∧ s = .int .u64 (S : Int) ∧ t = .int .i64 (i : Int)) (fun _ _ t => n - (intOf t).toNat)
  case atStart => exact ⟨0, 0, 1, Nat.zero_le _, by omega, by unfold Hid; simp, by unfold Hid; simp, rfl, rfl, rfl, rfl⟩
  case round =>
    obtain ⟨i, X, S, hi, hi9, HX, HS, HT, rfl, rfl, rfl⟩ := hrel
    by_cases hlt : i < n
    · obtain ⟨b, o, rfl, _, hcell⟩ := H.out.cell_at hlt
      have hxi : i < xs.length := by rw [H.out.len]; exact hlt
      have hy := HB.out (xs.getD i 0) (by simp [List.getD, hxi])
      have HT' : Hid (take 0 0 xs = take X i (xs.getD i 0 :: xs.drop (i + 1))) := by
        unfold Hid; rw [HT.out, List.drop_eq_getElem_cons hxi]; simp [List.getD, hxi]
      clear HT
      generalize xs.getD i 0 = y at *
      obtain ⟨hy0, hy1⟩ := hy
      by_cases hno : i = 9 ∧ 1 < y
      · obtain ⟨h9, hy2⟩ := hno
        have hb9 : ((i : Int) == 9) = true := beq_iff_eq.2 (by omega)
        have HV := Lib.hid (HT'.out.trans (take_no (by omega) hi9 hy2))
        clear HT' HX h9
        go_wp2
        go_ret3
        exact ⟨by rw [HV.out]; rfl, rfl⟩
      · have h9y : i = 9 → y ≤ 1 := by omega
        obtain ⟨P, Y, hmul, hsum, HY, HY9, hsc⟩ := group_sum X i S y hy0 hi9 h9y HX.out HS.out
        by_cases h128 : y < 128
        · by_cases h0 : y = 0 ∧ 0 < i
          · have HV := Lib.hid (HT'.out.trans (take_zero (by omega) hy0 h0.2))
            have hyb : (y == 0) = true := beq_iff_eq.2 h0.1
            have hi0 : 0 < i := h0.2
            by_cases h9 : i = 9
            · have hb9 : ((i : Int) == 9) = true := beq_iff_eq.2 (by omega)
              have hy2 : y ≤ 1 := h9y h9
              clear h9 HT' HX HY HY9 h9y hno h0 hsc
              go_wp2
              go_ret3
              exact ⟨by rw [HV.out]; rfl, rfl⟩
            · have hb9 : ((i : Int) == 9) = false := beq_eq_false_iff_ne.2 (by omega)
              clear h9 HT' HX HY HY9 h9y hno h0 hsc
              go_wp2
              go_ret3
              exact ⟨by rw [HV.out]; rfl, rfl⟩
          · have HV := Lib.hid (HT'.out.trans (take_end hy0 h9y h128 (by omega)))
            have fin : ∀ i1 : Int, i1 = (i : Int) + 1 → Ending.returned (.tuple #[.int .u64 (Y : Int), .int .i64 i1, .int .i64 0]) = .returned (.tuple #[.int .u64 ((take 0 0 xs).1 : Int), .int .i64 ((take 0 0 xs).2.1 : Int), .int .i64 ((take 0 0 xs).2.2 : Int)]) := by
              intro i1 h1
              rw [HV.out, ← HY.out, h1]
              rfl
            have FIN := Lib.hid fin
            by_cases hyz : y = 0
            · have hyb : (y == 0) = true := beq_iff_eq.2 hyz
              have hi0 : i ≤ 0 := by omega
              have hb9 : ((i : Int) == 9) = false := beq_eq_false_iff_ne.2 (by omega)
              clear HT' HX HY9 h9y hno h0 hyz fin HV HY hsc
              go_wp2
              go_ret3
              exact ⟨FIN.out _ rfl, rfl⟩
            · have hyb : (y == 0) = false := beq_eq_false_iff_ne.2 hyz
              by_cases h9 : i = 9
              · have hb9 : ((i : Int) == 9) = true := beq_iff_eq.2 (by omega)
                have hy2 : y ≤ 1 := h9y h9
                clear HT' HX HY9 h9y hno h0 hyz fin HV HY h9 hsc
                go_wp2
                go_ret3
                exact ⟨FIN.out _ rfl, rfl⟩
              · have hb9 : ((i : Int) == 9) = false := beq_eq_false_iff_ne.2 (by omega)
                clear HT' HX HY9 h9y hno h0 hyz fin HV HY h9 hsc
                go_wp2
                go_ret3
                exact ⟨FIN.out _ rfl, rfl⟩
        · have h9 : i ≠ 9 := by omega
          have hb9 : ((i : Int) == 9) = false := beq_eq_false_iff_ne.2 (by omega)
          have h128' : 128 ≤ y := by omega
          have HV := Lib.hid (HT'.out.trans (take_on h9y h128'))
          have hs' := hsc (by omega)
          obtain ⟨S', HS'⟩ : ∃ S', Hid (S' = 128 ^ (i + 1)) := ⟨128 ^ (i + 1), Lib.hid rfl⟩
          rw [← HS'.out] at hs'
          clear HT' HX h9y hno h128 hsc
          go_wp2
          go_round
          case rel => exact ⟨i + 1, Y, S', by omega, by omega, HY9.out (by omega), HS', by unfold Hid; rw [HV.out, HY.out], rfl, rfl, by go_num⟩
          case measure => simp [intOf]; omega
    · have hv : take 0 0 xs = (0, 0, 10) := by rw [HT.out, List.drop_eq_nil_of_le (by rw [H.out.len]; omega)]; rfl
      have HV := Lib.hid hv
      clear hv
      go_wp2
      go_ret3
      exact ⟨by rw [HV.out]; rfl, rfl⟩
end Go.Proofs.Ytdgaaghkhkklpaa.Var
