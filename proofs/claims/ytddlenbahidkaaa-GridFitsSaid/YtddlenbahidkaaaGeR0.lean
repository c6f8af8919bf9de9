/- Layer 13 (geo): the reference's May, Square, as contracts. -/
import Derived.Deep.QuietTactic
import Derived.BigQuiet
import Derived.WalkMore
import Derived.Test.YtddlenbahidkaaaGeO0
namespace Go.Proofs.Ytddlenbahidkaaa.Ge
open Go.RowKit Rec

set_option maxRecDepth 100000 in
theorem refmay_any (x y : Int) (w : World) : Calls Try.prog 14 #[.int .i64 x, .int .i64 y] w fun e w' => e = .returned (.bool (decide (may x y))) ∧ w' = w := by
  by_cases h0 : 0 ≤ x
  · have d0 : decide (0 ≤ x) = true := decide_eq_true h0
    by_cases h1 : x < 67108864
    · have d1 : decide (x < 67108864) = true := decide_eq_true h1
      by_cases h2 : 0 ≤ y
      · have d2 : decide (0 ≤ y) = true := decide_eq_true h2
        have hm : decide (may x y) = decide (y < 67108864) := decide_eq_decide.2 ⟨fun h => h.2.2, fun h => ⟨⟨h0, h1⟩, h2, h⟩⟩
        rw [hm]
        clear hm
        go_enter Try.func14, Try.ntmps14
        go_wp2
        go_ret
        exact ⟨rfl, rfl⟩
      · have d2 : decide (0 ≤ y) = false := decide_eq_false h2
        have hm : decide (may x y) = false := decide_eq_false fun h => h2 h.2.1
        rw [hm]
        go_enter Try.func14, Try.ntmps14
        go_wp2
        go_ret
        exact ⟨rfl, rfl⟩
    · have d1 : decide (x < 67108864) = false := decide_eq_false h1
      have hm : decide (may x y) = false := decide_eq_false fun h => h1 h.1.2
      rw [hm]
      go_enter Try.func14, Try.ntmps14
      go_wp2
      go_ret
      exact ⟨rfl, rfl⟩
  · have d0 : decide (0 ≤ x) = false := decide_eq_false h0
    have hm : decide (may x y) = false := decide_eq_false fun h => h0 h.1.1
    rw [hm]
    go_enter Try.func14, Try.ntmps14
    go_wp2
    go_ret
    exact ⟨rfl, rfl⟩

theorem diff_in {a b : Int} (ha : 0 ≤ a ∧ a < 67108864) (hb : 0 ≤ b ∧ b < 67108864) : -67108864 < a - b ∧ a - b < 67108864 := by omega
theorem mul_in {u v : Int} (hu : -67108864 < u ∧ u < 67108864) (hv : -67108864 < v ∧ v < 67108864) : -4503599627370496 ≤ u * v ∧ u * v ≤ 4503599627370496 := by
  have h1 : u.natAbs * v.natAbs ≤ 67108864 * 67108864 := Nat.mul_le_mul (by omega) (by omega)
  rw [← Int.natAbs_mul] at h1
  omega

set_option maxHeartbeats 800000 in
set_option maxRecDepth 100000 in
theorem refsquare_any (a b : Int × Int) (w : World) : Calls Try.prog 25 #[.agg #[.int .i64 a.1, .int .i64 a.2], .agg #[.int .i64 b.1, .int .i64 b.2]] w fun e w' => e = .returned (.int .i64 (sq a.1 a.2 b.1 b.2)) ∧ Below w.heap.size w w' := by
  obtain ⟨ax, ay⟩ := a
  obtain ⟨bx, by_⟩ := b
  simp only
  have HB : Hid (Below w.heap.size w ((w.alloc (.cells #[.int .i64 ax, .int .i64 ay] 46)).alloc (.cells #[.int .i64 bx, .int .i64 by_] 46))) := ((Below.refl _ _).alloc (Nat.le_refl _) _).alloc (by simp) _
  cases ha : decide (may ax ay) with
  | false =>
    have hs : sq ax ay bx by_ = 0 := by unfold sq; rw [if_neg (fun h => of_decide_eq_false ha h.1)]
    rw [hs]
    go_enter Try.func25, Try.ntmps25
    go_wp2_with fail
    refine (refmay_any ax ay _).mono ?_
    rw [ha]
    rintro e1 w1 ⟨rfl, rfl⟩
    go_wp2
    go_ret
    exact ⟨rfl, HB.out⟩
  | true =>
    cases hb : decide (may bx by_) with
    | false =>
      have hs : sq ax ay bx by_ = 0 := by unfold sq; rw [if_neg (fun h => of_decide_eq_false hb h.2)]
      rw [hs]
      go_enter Try.func25, Try.ntmps25
      go_wp2_with fail
      refine (refmay_any ax ay _).mono ?_
      rw [ha]
      rintro e1 w1 ⟨rfl, rfl⟩
      go_wp2_with fail
      refine (refmay_any bx by_ _).mono ?_
      rw [hb]
      rintro e1 w1 ⟨rfl, rfl⟩
      go_wp2
      go_ret
      exact ⟨rfl, HB.out⟩
    | true =>
      have ma : may ax ay := of_decide_eq_true ha
      have mb : may bx by_ := of_decide_eq_true hb
      have hs : sq ax ay bx by_ = (ax - bx) * (ax - bx) + (ay - by_) * (ay - by_) := by unfold sq; rw [if_pos ⟨ma, mb⟩]
      rw [hs]
      have dx := diff_in ma.1 mb.1
      have dy := diff_in ma.2 mb.2
      have qx := mul_in dx dx
      have qy := mul_in dy dy
      have m1 : IntKind.i64.wrap (ax - bx) = ax - bx := IntWalk.i64_in _ ⟨by omega, by omega⟩
      have m2 : IntKind.i64.wrap (ay - by_) = ay - by_ := IntWalk.i64_in _ ⟨by omega, by omega⟩
      have m3 : IntKind.i64.wrap ((ax - bx) * (ax - bx)) = (ax - bx) * (ax - bx) := IntWalk.i64_in _ ⟨by omega, by omega⟩
      have m4 : IntKind.i64.wrap ((ay - by_) * (ay - by_)) = (ay - by_) * (ay - by_) := IntWalk.i64_in _ ⟨by omega, by omega⟩
      have m5 : IntKind.i64.wrap ((ax - bx) * (ax - bx) + (ay - by_) * (ay - by_)) = (ax - bx) * (ax - bx) + (ay - by_) * (ay - by_) := IntWalk.i64_in _ ⟨by omega, by omega⟩
      clear ma mb dx dy qx qy hs
      go_enter Try.func25, Try.ntmps25
      go_wp2_with fail
      refine (refmay_any ax ay _).mono ?_
      rw [ha]
      rintro e1 w1 ⟨rfl, rfl⟩
      go_wp2_with fail
      refine (refmay_any bx by_ _).mono ?_
      rw [hb]
      rintro e1 w1 ⟨rfl, rfl⟩
      go_wp2
      go_ret
      exact ⟨rfl, HB.out⟩
end Go.Proofs.Ytddlenbahidkaaa.Ge
