/- Layer 13 (geo): the landed program's May, Square, Side and Root, as contracts. -/
import Derived.Deep.QuietTactic
import Derived.BigQuiet
import Derived.WalkMore
import Derived.Test.YtngjgdikooaknaaGeR
namespace Go.Proofs.Ytngjgdikooaknaa.Ge
open Go.RowKit Rec

set_option maxRecDepth 100000 in
theorem may_any (x y : Int) (w : World) : Calls Try.prog 7 #[.int .i64 x, .int .i64 y] w fun e w' => e = .returned (.bool (decide (may x y))) ∧ w' = w := by
  by_cases h0 : 0 ≤ x
  · have d0 : decide (0 ≤ x) = true := decide_eq_true h0
    by_cases h1 : x < 67108864
    · have d1 : decide (x < 67108864) = true := decide_eq_true h1
      by_cases h2 : 0 ≤ y
      · have d2 : decide (0 ≤ y) = true := decide_eq_true h2
        have hm : decide (may x y) = decide (y < 67108864) := decide_eq_decide.2 ⟨fun h => h.2.2, fun h => ⟨⟨h0, h1⟩, h2, h⟩⟩
        rw [hm]
        clear hm
        go_enter Try.func7, Try.ntmps7
        go_wp2
        go_ret
        exact ⟨rfl, rfl⟩
      · have d2 : decide (0 ≤ y) = false := decide_eq_false h2
        have hm : decide (may x y) = false := decide_eq_false fun h => h2 h.2.1
        rw [hm]
        go_enter Try.func7, Try.ntmps7
        go_wp2
        go_ret
        exact ⟨rfl, rfl⟩
    · have d1 : decide (x < 67108864) = false := decide_eq_false h1
      have hm : decide (may x y) = false := decide_eq_false fun h => h1 h.1.2
      rw [hm]
      go_enter Try.func7, Try.ntmps7
      go_wp2
      go_ret
      exact ⟨rfl, rfl⟩
  · have d0 : decide (0 ≤ x) = false := decide_eq_false h0
    have hm : decide (may x y) = false := decide_eq_false fun h => h0 h.1.1
    rw [hm]
    go_enter Try.func7, Try.ntmps7
    go_wp2
    go_ret
    exact ⟨rfl, rfl⟩


theorem cmp_sgn (u v : Int) : (if u < v then (-1 : Int) else if v < u then 1 else 0) = sgn (u - v) := by unfold sgn; repeat (split <;> try omega)
theorem nan_any (u : Int) (w : World) : Calls Try.prog 21 #[.int .i64 u] w fun e w' => e = .returned (.bool false) ∧ w' = w := by
  go_enter Try.func21, Try.ntmps21
  go_wp2
  go_ret
  exact ⟨by simp, rfl⟩
set_option maxRecDepth 100000 in
theorem compare_any (u v : Int) (w : World) : Calls Try.prog 18 #[.int .i64 u, .int .i64 v] w fun e w' => e = .returned (.int .i64 (if u < v then (-1 : Int) else if v < u then 1 else 0)) ∧ w' = w := by
  by_cases h : u < v
  · rw [if_pos h]
    have e1 : decide (u < v) = true := decide_eq_true h
    go_enter Try.func18, Try.ntmps18
    go_wp2_with fail
    refine (nan_any _ _).mono ?_
    rintro e1 w1 ⟨rfl, rfl⟩
    go_wp2_with fail
    refine (nan_any _ _).mono ?_
    rintro e1 w1 ⟨rfl, rfl⟩
    go_wp2
    go_ret
    exact ⟨rfl, rfl⟩
  · rw [if_neg h]
    have e1 : decide (u < v) = false := decide_eq_false h
    by_cases h2 : v < u
    · rw [if_pos h2]
      have e2 : decide (v < u) = true := decide_eq_true h2
      go_enter Try.func18, Try.ntmps18
      go_wp2_with fail
      refine (nan_any _ _).mono ?_
      rintro e1 w1 ⟨rfl, rfl⟩
      go_wp2_with fail
      refine (nan_any _ _).mono ?_
      rintro e1 w1 ⟨rfl, rfl⟩
      go_wp2
      go_ret
      exact ⟨rfl, rfl⟩
    · rw [if_neg h2]
      have e2 : decide (v < u) = false := decide_eq_false h2
      go_enter Try.func18, Try.ntmps18
      go_wp2_with fail
      refine (nan_any _ _).mono ?_
      rintro e1 w1 ⟨rfl, rfl⟩
      go_wp2_with fail
      refine (nan_any _ _).mono ?_
      rintro e1 w1 ⟨rfl, rfl⟩
      go_wp2
      go_ret
      exact ⟨rfl, rfl⟩

theorem compare_sgn (u v : Int) (w : World) : Calls Try.prog 18 #[.int .i64 u, .int .i64 v] w fun e w' => e = .returned (.int .i64 (sgn (u - v))) ∧ w' = w := by
  have h := compare_any u v w
  rw [cmp_sgn] at h
  exact h

set_option maxHeartbeats 800000 in
set_option maxRecDepth 100000 in
theorem square_any (a b : Int × Int) (w : World) : Calls Try.prog 9 #[.agg #[.int .i64 a.1, .int .i64 a.2], .agg #[.int .i64 b.1, .int .i64 b.2]] w fun e w' => e = .returned (.int .i64 (sq a.1 a.2 b.1 b.2)) ∧ Below w.heap.size w w' := by
  obtain ⟨ax, ay⟩ := a
  obtain ⟨bx, by_⟩ := b
  simp only
  have HB : Hid (Below w.heap.size w ((w.alloc (.cells #[.int .i64 ax, .int .i64 ay] 23)).alloc (.cells #[.int .i64 bx, .int .i64 by_] 23))) := ((Below.refl _ _).alloc (Nat.le_refl _) _).alloc (by simp) _
  cases ha : decide (may ax ay) with
  | false =>
    have hs : sq ax ay bx by_ = 0 := by unfold sq; rw [if_neg (fun h => of_decide_eq_false ha h.1)]
    rw [hs]
    go_enter Try.func9, Try.ntmps9
    go_wp2_with fail
    refine (may_any ax ay _).mono ?_
    rw [ha]
    rintro e1 w1 ⟨rfl, rfl⟩
    go_wp2
    go_ret
    exact ⟨rfl, HB.out⟩
  | true =>
    cases hb : decide (may bx by_) with
    | false =>
      have hs : sq ax ay bx by_ = 0 := by unfold sq; rw [if_neg (fun h => of_decide_eq_false hb h.2)]
      rw [hs]
      go_enter Try.func9, Try.ntmps9
      go_wp2_with fail
      refine (may_any ax ay _).mono ?_
      rw [ha]
      rintro e1 w1 ⟨rfl, rfl⟩
      go_wp2_with fail
      refine (may_any bx by_ _).mono ?_
      rw [hb]
      rintro e1 w1 ⟨rfl, rfl⟩
      go_wp2
      go_ret
      exact ⟨rfl, HB.out⟩
    | true =>
      have ma : may ax ay := of_decide_eq_true ha
      have mb : may bx by_ := of_decide_eq_true hb
      have hs : sq ax ay bx by_ = (bx - ax) * (bx - ax) + (by_ - ay) * (by_ - ay) := by unfold sq; rw [if_pos ⟨ma, mb⟩]; grind
      rw [hs]
      have dx := diff_in mb.1 ma.1
      have dy := diff_in mb.2 ma.2
      have qx := mul_in dx dx
      have qy := mul_in dy dy
      have m1 : IntKind.i64.wrap (bx - ax) = bx - ax := IntWalk.i64_in _ ⟨by omega, by omega⟩
      have m2 : IntKind.i64.wrap (by_ - ay) = by_ - ay := IntWalk.i64_in _ ⟨by omega, by omega⟩
      have m3 : IntKind.i64.wrap ((bx - ax) * (bx - ax)) = (bx - ax) * (bx - ax) := IntWalk.i64_in _ ⟨by omega, by omega⟩
      have m4 : IntKind.i64.wrap ((by_ - ay) * (by_ - ay)) = (by_ - ay) * (by_ - ay) := IntWalk.i64_in _ ⟨by omega, by omega⟩
      have m5 : IntKind.i64.wrap ((bx - ax) * (bx - ax) + (by_ - ay) * (by_ - ay)) = (bx - ax) * (bx - ax) + (by_ - ay) * (by_ - ay) := IntWalk.i64_in _ ⟨by omega, by omega⟩
      clear ma mb dx dy qx qy hs
      go_enter Try.func9, Try.ntmps9
      go_wp2_with fail
      refine (may_any ax ay _).mono ?_
      rw [ha]
      rintro e1 w1 ⟨rfl, rfl⟩
      go_wp2_with fail
      refine (may_any bx by_ _).mono ?_
      rw [hb]
      rintro e1 w1 ⟨rfl, rfl⟩
      go_wp2
      go_quiet (fail)
      go_wp2
      go_ret
      exact ⟨rfl, below_drewN HB.out _⟩

set_option maxHeartbeats 1600000 in
set_option maxRecDepth 100000 in
theorem side_any (a b c : Int × Int) (w : World) : Calls Try.prog 11 #[.agg #[.int .i64 a.1, .int .i64 a.2], .agg #[.int .i64 b.1, .int .i64 b.2], .agg #[.int .i64 c.1, .int .i64 c.2]] w fun e w' => e = .returned (.int .i64 (side a.1 a.2 b.1 b.2 c.1 c.2)) ∧ Below w.heap.size w w' := by
  obtain ⟨ax, ay⟩ := a
  obtain ⟨bx, by_⟩ := b
  obtain ⟨cx, cy⟩ := c
  simp only
  have HB : Hid (Below w.heap.size w (((w.alloc (.cells #[.int .i64 ax, .int .i64 ay] 23)).alloc (.cells #[.int .i64 bx, .int .i64 by_] 23)).alloc (.cells #[.int .i64 cx, .int .i64 cy] 23))) := (((Below.refl _ _).alloc (Nat.le_refl _) _).alloc (by simp) _).alloc (by simp; omega) _
  cases ha : decide (may ax ay) with
  | false =>
    have hs : side ax ay bx by_ cx cy = 0 := by unfold side; rw [if_neg (fun h => of_decide_eq_false ha h.1)]
    rw [hs]
    go_enter Try.func11, Try.ntmps11
    go_wp2_with fail
    refine (may_any ax ay _).mono ?_
    rw [ha]
    rintro e1 w1 ⟨rfl, rfl⟩
    go_wp2
    go_ret
    exact ⟨rfl, HB.out⟩
  | true =>
    cases hb : decide (may bx by_) with
    | false =>
      have hs : side ax ay bx by_ cx cy = 0 := by unfold side; rw [if_neg (fun h => of_decide_eq_false hb h.2.1)]
      rw [hs]
      go_enter Try.func11, Try.ntmps11
      go_wp2_with fail
      refine (may_any ax ay _).mono ?_
      rw [ha]
      rintro e1 w1 ⟨rfl, rfl⟩
      go_wp2_with fail
      refine (may_any bx by_ _).mono ?_
      rw [hb]
      rintro e1 w1 ⟨rfl, rfl⟩
      go_wp2
      go_ret
      exact ⟨rfl, HB.out⟩
    | true =>
      cases hc : decide (may cx cy) with
      | false =>
        have hs : side ax ay bx by_ cx cy = 0 := by unfold side; rw [if_neg (fun h => of_decide_eq_false hc h.2.2)]
        rw [hs]
        go_enter Try.func11, Try.ntmps11
        go_wp2_with fail
        refine (may_any ax ay _).mono ?_
        rw [ha]
        rintro e1 w1 ⟨rfl, rfl⟩
        go_wp2_with fail
        refine (may_any bx by_ _).mono ?_
        rw [hb]
        rintro e1 w1 ⟨rfl, rfl⟩
        go_wp2_with fail
        refine (may_any cx cy _).mono ?_
        rw [hc]
        rintro e1 w1 ⟨rfl, rfl⟩
        go_wp2
        go_ret
        exact ⟨rfl, HB.out⟩
      | true =>
        have ma : may ax ay := of_decide_eq_true ha
        have mb : may bx by_ := of_decide_eq_true hb
        have mc : may cx cy := of_decide_eq_true hc
        have hs : side ax ay bx by_ cx cy = sgn ((bx - ax) * (cy - ay) - (by_ - ay) * (cx - ax)) := by unfold side cross; rw [if_pos ⟨ma, mb, mc⟩]
        rw [hs]
        have d1 := diff_in mb.1 ma.1
        have d2 := diff_in mc.2 ma.2
        have d3 := diff_in mb.2 ma.2
        have d4 := diff_in mc.1 ma.1
        have q1 := mul_in d1 d2
        have q2 := mul_in d3 d4
        have m1 : IntKind.i64.wrap (bx - ax) = bx - ax := IntWalk.i64_in _ ⟨by omega, by omega⟩
        have m2 : IntKind.i64.wrap (cy - ay) = cy - ay := IntWalk.i64_in _ ⟨by omega, by omega⟩
        have m3 : IntKind.i64.wrap (by_ - ay) = by_ - ay := IntWalk.i64_in _ ⟨by omega, by omega⟩
        have m4 : IntKind.i64.wrap (cx - ax) = cx - ax := IntWalk.i64_in _ ⟨by omega, by omega⟩
        have m5 : IntKind.i64.wrap ((bx - ax) * (cy - ay)) = (bx - ax) * (cy - ay) := IntWalk.i64_in _ ⟨by omega, by omega⟩
        have m6 : IntKind.i64.wrap ((by_ - ay) * (cx - ax)) = (by_ - ay) * (cx - ax) := IntWalk.i64_in _ ⟨by omega, by omega⟩
        clear ma mb mc d1 d2 d3 d4 q1 q2 hs
        go_enter Try.func11, Try.ntmps11
        go_wp2_with fail
        refine (may_any ax ay _).mono ?_
        rw [ha]
        rintro e1 w1 ⟨rfl, rfl⟩
        go_wp2_with fail
        refine (may_any bx by_ _).mono ?_
        rw [hb]
        rintro e1 w1 ⟨rfl, rfl⟩
        go_wp2_with fail
        refine (may_any cx cy _).mono ?_
        rw [hc]
        rintro e1 w1 ⟨rfl, rfl⟩
        go_wp2_with fail
        refine (compare_sgn _ _ _).mono ?_
        rintro e1 w1 ⟨rfl, rfl⟩
        go_wp2
        go_ret
        exact ⟨rfl, HB.out⟩

/-- What a root that is found bit by bit keeps. -/
def Stp (n : Int) (x c : Nat) : Prop := x + c ≤ 4294967296 ∧ (n < 0 → x = 0) ∧ (0 ≤ n → (x : Int) * x ≤ n ∧ n < ((x + c : Nat) : Int) * ((x + c : Nat) : Int))
theorem stp_start {n : Int} (h : n ≤ 9223372036854775807) : Stp n 0 4294967296 := ⟨by omega, fun _ => rfl, fun h0 => ⟨by simpa using h0, by omega⟩⟩
theorem stp_end {n : Int} {x : Nat} (h : Stp n x 1) : IsRoot n x := by
  rcases Int.lt_or_le n 0 with hn | hn
  · exact .inl ⟨hn, by rw [h.2.1 hn]; rfl⟩
  · exact .inr ⟨hn, by omega, (h.2.2 hn).1, by have := (h.2.2 hn).2; push_cast at this; exact this⟩
theorem stp_yes {n : Int} {x b : Nat} (h : Stp n x (2 * b)) (hm : ((x + b : Nat) : Int) * ((x + b : Nat) : Int) ≤ n) : Stp n (x + b) b := by
  have h0 : 0 ≤ n := by have := sqn ((x + b : Nat) : Int); omega
  have e : x + b + b = x + 2 * b := by omega
  exact ⟨by rw [e]; exact h.1, fun hn => by omega, fun _ => ⟨hm, by rw [e]; exact (h.2.2 h0).2⟩⟩
theorem stp_no {n : Int} {x b : Nat} (h : Stp n x (2 * b)) (hm : ¬ ((x + b : Nat) : Int) * ((x + b : Nat) : Int) ≤ n) : Stp n x b := ⟨by have := h.1; omega, h.2.1, fun hn => ⟨(h.2.2 hn).1, by omega⟩⟩
theorem tdiv_low {n : Int} {m : Nat} (h : n ≤ 0) : n.tdiv (m : Int) ≤ 0 := by
  have h1 := Int.tdiv_nonneg (by omega : 0 ≤ -n) (by omega : (0 : Int) ≤ (m : Int))
  rw [Int.neg_tdiv] at h1
  omega
theorem quo_of {n : Int} {m : Nat} (hn : B64 n) (hm : 0 < m) : ∃ q, Int.tdiv n m = q ∧ IntKind.i64.wrap q = q ∧ decide ((m : Int) ≤ q) = decide ((m : Int) * m ≤ n) := by
  refine ⟨_, rfl, ?_, ?_⟩
  · refine IntWalk.i64_in _ ?_
    have h1 := Int.natAbs_tdiv n (m : Int)
    have h2 : n.natAbs / (m : Int).natAbs ≤ n.natAbs := Nat.div_le_self _ _
    obtain ⟨a, b⟩ := hn
    by_cases h0 : 0 ≤ n
    · have h3 := Int.tdiv_nonneg h0 (by omega : (0 : Int) ≤ (m : Int))
      have h4 : ((n.tdiv (m : Int)).natAbs) = n.natAbs / (m : Int).natAbs := h1
      omega
    · have h4 : ((n.tdiv (m : Int)).natAbs) = n.natAbs / (m : Int).natAbs := h1
      have h3 : n.tdiv (m : Int) ≤ 0 := tdiv_low (by omega)
      omega
  · refine decide_eq_decide.2 ?_
    by_cases h0 : 0 ≤ n
    · rw [Int.tdiv_eq_ediv_of_nonneg h0]
      exact Int.le_ediv_iff_mul_le (by omega)
    · have h3 : n.tdiv (m : Int) ≤ 0 := tdiv_low (by omega)
      have h4 := sqn (m : Int)
      constructor <;> intro h <;> omega

set_option maxHeartbeats 800000 in
set_option maxRecDepth 100000 in
theorem root_any (n : Int) (w : World) (hn : B64 n) : Calls Try.prog 13 #[.int .i64 n] w fun e w' => ∃ x, e = .returned (.int .i64 x) ∧ IsRoot n x ∧ Below w.heap.size w w' := by
  have HN := Lib.hid hn
  have HB0 : Hid (Stp n 0 (2 ^ 32)) := stp_start hn.2
  clear hn
  go_enter Try.func13, Try.ntmps13
  go_wp2
  go_loopw [3, 4, 5] (fun u v _ wr => ∃ x k : Nat, k ≤ 32 ∧ u = .int .i64 (x : Int) ∧ v = .int .i64 ((2 ^ k / 2 : Nat) : Int) ∧ Hid (Stp n x (2 ^ k)) ∧ Hid (wr = w)) (fun _ v _ _ => (intOf v).toNat)
  case atStart => exact ⟨0, 32, by omega, rfl, rfl, HB0, by unfold Hid; trivial⟩
  case round =>
    obtain ⟨x, k, hk, rfl, rfl, HS, hw⟩ := hrel
    obtain rfl := hw.out
    clear hw
    cases k with
    | zero =>
      have e1 : decide ((0 : Int) < ((2 ^ 0 / 2 : Nat) : Int)) = false := by decide
      have HE := Lib.hid (stp_end HS.out)
      go_wp2
      go_ret
      exact ⟨_, rfl, HE.out, Below.refl _ _⟩
    | succ k =>
      have hp : 2 ^ (k + 1) / 2 = 2 ^ k := by rw [Nat.pow_succ]; omega
      have hp2 : 2 ^ (k + 1) = 2 * 2 ^ k := by rw [Nat.pow_succ]; omega
      rw [hp2] at HS
      rw [hp]
      have hb : 0 < 2 ^ k := Nat.pow_pos (by omega)
      have hh := Lib.hid (show ∀ j, j = 2 ^ k → j / 2 = 2 ^ k / 2 from fun j h => by rw [h])
      have HKB : Hid ((2 ^ k : Nat) = 2 ^ k) := by unfold Hid; trivial
      obtain ⟨b, hbk⟩ : ∃ b, 2 ^ k = b := ⟨_, rfl⟩
      rw [hbk] at HS hb
      have HBK := Lib.hid hbk
      clear hp hp2 HKB hh
      have hx := HS.out.1
      obtain ⟨m, hm⟩ : ∃ m, x + b = m := ⟨_, rfl⟩
      obtain ⟨q, hq1, hq2, hq3⟩ := quo_of HN.out (by omega : 0 < m)
      have ea : IntKind.i64.wrap ((x : Int) + (b : Int)) = (m : Int) := (IntWalk.i64_in _ ⟨by omega, by omega⟩).trans (by omega)
      have ez : ¬ ((m : Int) = 0) := by omega
      have e1 : decide ((0 : Int) < (b : Int)) = true := decide_eq_true (by omega)
      rw [hbk]
      by_cases hc : (m : Int) * (m : Int) ≤ n
      · rw [decide_eq_true hc] at hq3
        have HS2 := Lib.hid (stp_yes HS.out (by rw [hm]; exact hc))
        rw [hm] at HS2
        have hm0 := Lib.hid hm
        clear HS hc hm hbk
        go_wp2
        go_roundw
        case rel => exact ⟨m, k, by omega, rfl, by rw [HBK.out]; go_num, by rw [HBK.out]; exact HS2, by unfold Hid; trivial⟩
        case measure => simp [intOf]; omega
      · rw [decide_eq_false hc] at hq3
        have HS2 := Lib.hid (stp_no HS.out (by rw [hm]; exact hc))
        have hm0 := Lib.hid hm
        clear HS hc hm hbk
        go_wp2
        go_roundw
        case rel => exact ⟨x, k, by omega, rfl, by rw [HBK.out]; go_num, by rw [HBK.out]; exact HS2, by unfold Hid; trivial⟩
        case measure => simp [intOf]; omega
end Go.Proofs.Ytngjgdikooaknaa.Ge
