/- Layer 5 (sample): follows, as a contract. -/
import Derived.Test.YtefnpibikebmdaaSmpR
import Derived.Test.YtefnpibikebmdaaFam
namespace Go.Proofs.Ytefnpibikebmdaa.Smp
open Go.RowKit Var Fld

/-- May, told by what it leaves. -/
theorem may_on (s : S) (w : World) : Calls Try.prog 10 #[.agg #[.int .i64 s.t, .int .i64 s.x, .int .i64 s.y]] w fun e w' => e = .returned (.bool (may s)) ∧ Below w.heap.size w w' := by
  refine (may_any s w).mono ?_
  rintro e w' ⟨rfl, rfl⟩
  exact ⟨rfl, (Below.refl _ _).alloc (Nat.le_refl _) _⟩

theorem refmay_on (s : S) (w : World) : Calls Try.prog 11 #[.agg #[.int .i64 s.t, .int .i64 s.x, .int .i64 s.y]] w fun e w' => e = .returned (.bool (may s)) ∧ Below w.heap.size w w' := by
  refine (refmay_any s w).mono ?_
  rintro e w' ⟨rfl, rfl⟩
  exact ⟨rfl, (Below.refl _ _).alloc (Nat.le_refl _) _⟩

set_option maxHeartbeats 1600000 in
set_option maxRecDepth 100000 in
theorem follows_any (A : Option Addr) (n c : Nat) (ss : List S) (s : S) (w : World) (h : SRow w w.heap.size A n ss) (hn : n ≤ 4398046511104) :
    Calls Try.prog 15 #[.slice A n c, s.val] w fun e w' => e = .returned (.bool (okp ss s)) ∧ Below w.heap.size w w' := by
  have H := Lib.hid h
  have eS : s.val = .agg #[.int .i64 s.t, .int .i64 s.x, .int .i64 s.y] := rfl
  have eC : s.cells = #[.int .i64 s.t, .int .i64 s.x, .int .i64 s.y] := rfl
  have HM := Lib.hid (fun w => may_on s w)
  obtain ⟨b0, b1, b2⟩ := boxed w s 32
  rw [eC] at b0 b1 b2
  have HB := Lib.hid ((Below.refl w.heap.size w).alloc (Nat.le_refl _) (.cells #[.int .i64 s.t, .int .i64 s.x, .int .i64 s.y] 32))
  have HS : Hid (w.heap.size < (w.alloc (.cells #[.int .i64 s.t, .int .i64 s.x, .int .i64 s.y] 32)).heap.size) := by unfold Hid; simp
  obtain ⟨ι, hne, W, i0, h0, hW, hC⟩ := fam_of (w.alloc (.cells #[.int .i64 s.t, .int .i64 s.x, .int .i64 s.y] 32))
  have d0 : ∀ i, (W i).cell? ⟨w.heap.size, 0, none⟩ = some (.int .i64 s.t) := fun i => ((hW i).cell (p := ⟨w.heap.size, 0, none⟩) HS.out).trans b0
  have d1 : ∀ i, (W i).cell? ⟨w.heap.size, 1, none⟩ = some (.int .i64 s.x) := fun i => ((hW i).cell (p := ⟨w.heap.size, 1, none⟩) HS.out).trans b1
  have d2 : ∀ i, (W i).cell? ⟨w.heap.size, 2, none⟩ = some (.int .i64 s.y) := fun i => ((hW i).cell (p := ⟨w.heap.size, 2, none⟩) HS.out).trans b2
  have HWW : ∀ i, Hid (Below w.heap.size w (W i)) := fun i => HB.out.trans ((hW i).mono HB.out.size)
  have H0 := Lib.hid h0
  have HC := Lib.hid hC
  clear h eC b0 b1 b2 h0 hW hC
  rw [eS]
  clear eS
  cases hm : may s with
  | false =>
    have e0 : okp ss s = false := by unfold okp; rw [hm]; rfl
    rw [e0]
    rw [hm] at HM
    go_enter Try.func15, Try.ntmps15
    go_wp2_with fail
    refine wp_region_fam W i0 (by kernel_rfl) (by kernel_rfl) H0.out ?_
    repeat (go_big_quiet_step ((go_at_call 10; exact fam_call HC.out (HM.out _))))
    refine wpQuiet_nil ?_
    rintro _ ⟨i, rfl⟩
    go_wp2
    go_ret
    exact ⟨rfl, (HWW i).out⟩
  | true =>
    rw [hm] at HM
    rcases Nat.eq_zero_or_pos n with hn0 | hn0
    · subst hn0
      have e0 : okp ss s = true := by unfold okp; rw [hm, H.out.len]; simp
      rw [e0]
      go_enter Try.func15, Try.ntmps15
      go_wp2_with fail
      refine wp_region_fam W i0 (by kernel_rfl) (by kernel_rfl) H0.out ?_
      repeat (go_big_quiet_step ((go_at_call 10; exact fam_call HC.out (HM.out _))))
      refine wpQuiet_nil ?_
      rintro _ ⟨i, rfl⟩
      go_wp2
      go_ret
      exact ⟨rfl, (HWW i).out⟩
    · obtain ⟨b, o, u, rfl, hbl, hu, -, hcell, -, -⟩ := H.out.at (show n - 1 < n by omega)
      have hl : las ss = u := by
        have := las_take hu
        rwa [show n - 1 + 1 = n by omega, List.take_of_length_le (by rw [H.out.len]; exact Nat.le_refl _)] at this
      have e0 : okp ss s = decide (u.t < s.t) := by
        unfold okp
        rw [hm, hl, H.out.len, decide_eq_false (show ¬ n = 0 by omega)]
        simp
      rw [e0]
      have hne0 : ((n : Int) == 0) = false := beq_eq_false_iff_ne.2 (by omega)
      have hw : IntKind.i64.wrap ((n : Int) - 1) = (n : Int) - 1 := IntWalk.i64_in _ ⟨by omega, by omega⟩
      have hc : ∀ i, (W i).cell? ⟨b, o + (n - 1) * 3, none⟩ = some (.int .i64 u.t) := fun i => ((HWW i).out.cell (p := ⟨b, o + (n - 1) * 3, none⟩) hbl).trans hcell
      have i1 : (0 : Int) ≤ (n : Int) - 1 := by omega
      have i2 : (n : Int) - 1 < n := by omega
      clear hcell hu hl
      go_enter Try.func15, Try.ntmps15
      go_wp2_with fail
      refine wp_region_fam W i0 (by kernel_rfl) (by kernel_rfl) H0.out ?_
      repeat (go_big_quiet_step ((go_at_call 10; exact fam_call HC.out (HM.out _))))
      refine wpQuiet_nil ?_
      rintro _ ⟨i, rfl⟩
      go_wp2
      go_ret
      exact ⟨rfl, (HWW i).out⟩
end Go.Proofs.Ytefnpibikebmdaa.Smp
