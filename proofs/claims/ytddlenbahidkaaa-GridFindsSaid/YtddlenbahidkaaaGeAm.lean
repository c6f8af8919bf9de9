/- Layer 13 (geo): the landed program's May, Square (and cmp.Compare on ints), as contracts. -/
import Derived.Deep.QuietTactic
import Derived.BigQuiet
import Derived.WalkMore
import Derived.Test.YtddlenbahidkaaaGeR0
namespace Go.Proofs.Ytddlenbahidkaaa.Ge
open Go.RowKit Rec

set_option maxRecDepth 100000 in
theorem may_any (x y : Int) (w : World) : Calls Try.prog 17 #[.int .i64 x, .int .i64 y] w fun e w' => e = .returned (.bool (decide (may x y))) ∧ w' = w := by
  by_cases h0 : 0 ≤ x
  · have d0 : decide (0 ≤ x) = true := decide_eq_true h0
    by_cases h1 : x < 67108864
    · have d1 : decide (x < 67108864) = true := decide_eq_true h1
      by_cases h2 : 0 ≤ y
      · have d2 : decide (0 ≤ y) = true := decide_eq_true h2
        have hm : decide (may x y) = decide (y < 67108864) := decide_eq_decide.2 ⟨fun h => h.2.2, fun h => ⟨⟨h0, h1⟩, h2, h⟩⟩
        rw [hm]
        clear hm
        go_enter Try.func17, Try.ntmps17
        go_wp2
        go_ret
        exact ⟨rfl, rfl⟩
      · have d2 : decide (0 ≤ y) = false := decide_eq_false h2
        have hm : decide (may x y) = false := decide_eq_false fun h => h2 h.2.1
        rw [hm]
        go_enter Try.func17, Try.ntmps17
        go_wp2
        go_ret
        exact ⟨rfl, rfl⟩
    · have d1 : decide (x < 67108864) = false := decide_eq_false h1
      have hm : decide (may x y) = false := decide_eq_false fun h => h1 h.1.2
      rw [hm]
      go_enter Try.func17, Try.ntmps17
      go_wp2
      go_ret
      exact ⟨rfl, rfl⟩
  · have d0 : decide (0 ≤ x) = false := decide_eq_false h0
    have hm : decide (may x y) = false := decide_eq_false fun h => h0 h.1.1
    rw [hm]
    go_enter Try.func17, Try.ntmps17
    go_wp2
    go_ret
    exact ⟨rfl, rfl⟩


theorem cmp_sgn (u v : Int) : (if u < v then (-1 : Int) else if v < u then 1 else 0) = sgn (u - v) := by unfold sgn; repeat (split <;> try omega)
theorem nan_any (u : Int) (w : World) : Calls Try.prog 41 #[.int .i64 u] w fun e w' => e = .returned (.bool false) ∧ w' = w := by
  go_enter Try.func41, Try.ntmps41
  go_wp2
  go_ret
  exact ⟨by simp, rfl⟩
set_option maxRecDepth 100000 in
theorem compare_any (u v : Int) (w : World) : Calls Try.prog 30 #[.int .i64 u, .int .i64 v] w fun e w' => e = .returned (.int .i64 (if u < v then (-1 : Int) else if v < u then 1 else 0)) ∧ w' = w := by
  by_cases h : u < v
  · rw [if_pos h]
    have e1 : decide (u < v) = true := decide_eq_true h
    go_enter Try.func30, Try.ntmps30
    go_wp2_with fail
    refine (nan_any _ _).mono ?_
    rintro e1 w1 ⟨rfl, rfl⟩
    go_wp2_with fail
    refine (nan_any _ _).mono ?_
    rintro e1 w1 ⟨rfl, rfl⟩
    go_wp2
    go_ret
    exact ⟨rfl, rfl⟩
  · rw [if_neg h]
    have e1 : decide (u < v) = false := decide_eq_false h
    by_cases h2 : v < u
    · rw [if_pos h2]
      have e2 : decide (v < u) = true := decide_eq_true h2
      go_enter Try.func30, Try.ntmps30
      go_wp2_with fail
      refine (nan_any _ _).mono ?_
      rintro e1 w1 ⟨rfl, rfl⟩
      go_wp2_with fail
      refine (nan_any _ _).mono ?_
      rintro e1 w1 ⟨rfl, rfl⟩
      go_wp2
      go_ret
      exact ⟨rfl, rfl⟩
    · rw [if_neg h2]
      have e2 : decide (v < u) = false := decide_eq_false h2
      go_enter Try.func30, Try.ntmps30
      go_wp2_with fail
      refine (nan_any _ _).mono ?_
      rintro e1 w1 ⟨rfl, rfl⟩
      go_wp2_with fail
      refine (nan_any _ _).mono ?_
      rintro e1 w1 ⟨rfl, rfl⟩
      go_wp2
      go_ret
      exact ⟨rfl, rfl⟩

theorem compare_sgn (u v : Int) (w : World) : Calls Try.prog 30 #[.int .i64 u, .int .i64 v] w fun e w' => e = .returned (.int .i64 (sgn (u - v))) ∧ w' = w := by
  have h := compare_any u v w
  rw [cmp_sgn] at h
  exact h

set_option maxHeartbeats 800000 in
set_option maxRecDepth 100000 in
theorem square_any (a b : Int × Int) (w : World) : Calls Try.prog 26 #[.agg #[.int .i64 a.1, .int .i64 a.2], .agg #[.int .i64 b.1, .int .i64 b.2]] w fun e w' => e = .returned (.int .i64 (sq a.1 a.2 b.1 b.2)) ∧ Below w.heap.size w w' := by
  obtain ⟨ax, ay⟩ := a
  obtain ⟨bx, by_⟩ := b
  simp only
  have HB : Hid (Below w.heap.size w ((w.alloc (.cells #[.int .i64 ax, .int .i64 ay] 46)).alloc (.cells #[.int .i64 bx, .int .i64 by_] 46))) := ((Below.refl _ _).alloc (Nat.le_refl _) _).alloc (by simp) _
  cases ha : decide (may ax ay) with
  | false =>
    have hs : sq ax ay bx by_ = 0 := by unfold sq; rw [if_neg (fun h => of_decide_eq_false ha h.1)]
    rw [hs]
    go_enter Try.func26, Try.ntmps26
    go_wp2_with fail
    refine (may_any ax ay _).mono ?_
    rw [ha]
    rintro e1 w1 ⟨rfl, rfl⟩
    go_wp2
    go_ret
    exact ⟨rfl, HB.out⟩
  | true =>
    cases hb : decide (may bx by_) with
    | false =>
      have hs : sq ax ay bx by_ = 0 := by unfold sq; rw [if_neg (fun h => of_decide_eq_false hb h.2)]
      rw [hs]
      go_enter Try.func26, Try.ntmps26
      go_wp2_with fail
      refine (may_any ax ay _).mono ?_
      rw [ha]
      rintro e1 w1 ⟨rfl, rfl⟩
      go_wp2_with fail
      refine (may_any bx by_ _).mono ?_
      rw [hb]
      rintro e1 w1 ⟨rfl, rfl⟩
      go_wp2
      go_ret
      exact ⟨rfl, HB.out⟩
    | true =>
      have ma : may ax ay := of_decide_eq_true ha
      have mb : may bx by_ := of_decide_eq_true hb
      have hs : sq ax ay bx by_ = (bx - ax) * (bx - ax) + (by_ - ay) * (by_ - ay) := by unfold sq; rw [if_pos ⟨ma, mb⟩]; grind
      rw [hs]
      have dx := diff_in mb.1 ma.1
      have dy := diff_in mb.2 ma.2
      have qx := mul_in dx dx
      have qy := mul_in dy dy
      have m1 : IntKind.i64.wrap (bx - ax) = bx - ax := IntWalk.i64_in _ ⟨by omega, by omega⟩
      have m2 : IntKind.i64.wrap (by_ - ay) = by_ - ay := IntWalk.i64_in _ ⟨by omega, by omega⟩
      have m3 : IntKind.i64.wrap ((bx - ax) * (bx - ax)) = (bx - ax) * (bx - ax) := IntWalk.i64_in _ ⟨by omega, by omega⟩
      have m4 : IntKind.i64.wrap ((by_ - ay) * (by_ - ay)) = (by_ - ay) * (by_ - ay) := IntWalk.i64_in _ ⟨by omega, by omega⟩
      have m5 : IntKind.i64.wrap ((bx - ax) * (bx - ax) + (by_ - ay) * (by_ - ay)) = (bx - ax) * (bx - ax) + (by_ - ay) * (by_ - ay) := IntWalk.i64_in _ ⟨by omega, by omega⟩
      clear ma mb dx dy qx qy hs
      go_enter Try.func26, Try.ntmps26
      go_wp2_with fail
      refine (may_any ax ay _).mono ?_
      rw [ha]
      rintro e1 w1 ⟨rfl, rfl⟩
      go_wp2_with fail
      refine (may_any bx by_ _).mono ?_
      rw [hb]
      rintro e1 w1 ⟨rfl, rfl⟩
      go_wp2
      go_quiet (fail)
      go_wp2
      go_ret
      exact ⟨rfl, below_drewN HB.out _⟩

end Go.Proofs.Ytddlenbahidkaaa.Ge
