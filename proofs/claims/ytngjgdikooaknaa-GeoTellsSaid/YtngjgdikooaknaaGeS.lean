/- Layer 13 (geo): the reference's Far, Side, Root, as contracts. -/
import Derived.Test.YtngjgdikooaknaaGeR
import Derived.Test.YtngjgdikooaknaaFam
import Derived.Test.YtngjgdikooaknaaMix
namespace Go.Proofs.Ytngjgdikooaknaa.Ge
open Go.RowKit Rec

set_option maxHeartbeats 800000 in
set_option maxRecDepth 100000 in
theorem reffar_any (p : C) (w : World) (h1 : -4294967296 ≤ p.1 ∧ p.1 ≤ 4294967296) (h2 : -4294967296 ≤ p.2 ∧ p.2 ≤ 4294967296) : Calls Try.prog 17 #[.agg #[.int .i64 p.1, .int .i64 p.2]] w fun e w' => e = .returned (.int .i64 (far p)) ∧ Below w.heap.size w w' := by
  have hba : Below w.heap.size w (w.alloc (.cells #[.int .i64 p.1, .int .i64 p.2] 35)) := (Below.refl _ _).alloc (Nat.le_refl _) _
  have hbk := heap_alloc_new w (.cells #[.int .i64 p.1, .int .i64 p.2] 35)
  have HB := Lib.hid hba
  have HK := Lib.hid hbk
  have H1 := Lib.hid h1
  have H2 := Lib.hid h2
  clear hba hbk h1 h2
  cases hc : decide (am p.2 < am p.1) with
  | true =>
    have hf : far p = am p.1 := by unfold far; rw [if_pos (of_decide_eq_true hc)]
    rw [hf]
    clear hf
    go_enter Try.func17, Try.ntmps17
    go_wp2_with fail
    obtain ⟨gb, hgb⟩ : ∃ gb, w.heap.size = gb := ⟨_, rfl⟩
    rw [hgb] at HK HB ⊢
    generalize w.alloc (.cells #[.int .i64 p.1, .int .i64 p.2] 35) = w1 at *
    obtain ⟨ι, hne, W, i0, h0, hW, hC⟩ := fam_of w1
    have HWB : ∀ i, Hid (Below gb w (W i)) := fun i => HB.out.trans ((hW i).mono (by have := (Array.getElem?_eq_some_iff.1 HK.out).1; omega))
    have HWK : ∀ i, Hid ((W i).heap[gb]? = some (.cells #[.int .i64 p.1, .int .i64 p.2] 35 (0, 0))) := fun i => ((hW i).block _ (Array.getElem?_eq_some_iff.1 HK.out).1).trans HK.out
    have d0 : ∀ i, (W i).cell? ⟨gb, 0, none⟩ = some (.int .i64 p.1) := fun i => cell_of_blk (HWK i).out rfl
    have d1 : ∀ i, (W i).cell? ⟨gb, 1, none⟩ = some (.int .i64 p.2) := fun i => cell_of_blk (HWK i).out rfl
    refine Mix.wp_region_lex (fun w' => ∃ i, w' = W i) (by kernel_rfl) (by kernel_rfl) ⟨i0, h0⟩ ?_
    rw [h0]
    clear h0
    repeat (first | (refine Mix.lex_step rfl ?_; intro K hK; go_big_quiet_step (fail); refine Mix.lex_on hK ?_; clear hK K) | (refine Mix.lex_skip rfl ?_; simp only [Act.put, List.setIfInBounds_toArray, List.set_cons_zero, List.set_cons_succ]))
    refine Mix.lex_call (refamount_any p.1 (W i0) H1.out) rfl rfl rfl (fun _ => rfl) ?_
    rintro e1 w1 ⟨rfl, rfl⟩
    refine ⟨_, rfl, ⟨i0, rfl⟩, ?_⟩
    simp only [Act.put, List.setIfInBounds_toArray, List.set_cons_zero, List.set_cons_succ]
    repeat (first | (refine Mix.lex_step rfl ?_; intro K hK; go_big_quiet_step (fail); refine Mix.lex_on hK ?_; clear hK K) | (refine Mix.lex_skip rfl ?_; simp only [Act.put, List.setIfInBounds_toArray, List.set_cons_zero, List.set_cons_succ]))
    refine Mix.lex_call (refamount_any p.2 (W i0) H2.out) rfl rfl rfl (fun _ => rfl) ?_
    rintro e2 w2 ⟨rfl, rfl⟩
    refine ⟨_, rfl, ⟨i0, rfl⟩, ?_⟩
    simp only [Act.put, List.setIfInBounds_toArray, List.set_cons_zero, List.set_cons_succ]
    repeat (first | (refine Mix.lex_step rfl ?_; intro K hK; go_big_quiet_step (fail); refine Mix.lex_on hK ?_; clear hK K) | (refine Mix.lex_skip rfl ?_; simp only [Act.put, List.setIfInBounds_toArray, List.set_cons_zero, List.set_cons_succ]))
    refine Mix.lex_nil ?_
    have HBZ := HWB i0
    have z0 := d0 i0
    have z1 := d1 i0
    clear HWB HWK d0 d1 hW hC
    generalize W i0 = wz at *
    go_wp2_with fail
    refine (refamount_any p.1 wz H1.out).mono ?_
    rintro e3 w3 ⟨rfl, rfl⟩
    go_wp2
    go_ret
    exact ⟨rfl, by rw [hgb]; exact HBZ.out⟩
  | false =>
    have hf : far p = am p.2 := by unfold far; rw [if_neg (of_decide_eq_false hc)]
    rw [hf]
    clear hf
    go_enter Try.func17, Try.ntmps17
    go_wp2_with fail
    obtain ⟨gb, hgb⟩ : ∃ gb, w.heap.size = gb := ⟨_, rfl⟩
    rw [hgb] at HK HB ⊢
    generalize w.alloc (.cells #[.int .i64 p.1, .int .i64 p.2] 35) = w1 at *
    obtain ⟨ι, hne, W, i0, h0, hW, hC⟩ := fam_of w1
    have HWB : ∀ i, Hid (Below gb w (W i)) := fun i => HB.out.trans ((hW i).mono (by have := (Array.getElem?_eq_some_iff.1 HK.out).1; omega))
    have HWK : ∀ i, Hid ((W i).heap[gb]? = some (.cells #[.int .i64 p.1, .int .i64 p.2] 35 (0, 0))) := fun i => ((hW i).block _ (Array.getElem?_eq_some_iff.1 HK.out).1).trans HK.out
    have d0 : ∀ i, (W i).cell? ⟨gb, 0, none⟩ = some (.int .i64 p.1) := fun i => cell_of_blk (HWK i).out rfl
    have d1 : ∀ i, (W i).cell? ⟨gb, 1, none⟩ = some (.int .i64 p.2) := fun i => cell_of_blk (HWK i).out rfl
    refine Mix.wp_region_lex (fun w' => ∃ i, w' = W i) (by kernel_rfl) (by kernel_rfl) ⟨i0, h0⟩ ?_
    rw [h0]
    clear h0
    repeat (first | (refine Mix.lex_step rfl ?_; intro K hK; go_big_quiet_step (fail); refine Mix.lex_on hK ?_; clear hK K) | (refine Mix.lex_skip rfl ?_; simp only [Act.put, List.setIfInBounds_toArray, List.set_cons_zero, List.set_cons_succ]))
    refine Mix.lex_call (refamount_any p.1 (W i0) H1.out) rfl rfl rfl (fun _ => rfl) ?_
    rintro e1 w1 ⟨rfl, rfl⟩
    refine ⟨_, rfl, ⟨i0, rfl⟩, ?_⟩
    simp only [Act.put, List.setIfInBounds_toArray, List.set_cons_zero, List.set_cons_succ]
    repeat (first | (refine Mix.lex_step rfl ?_; intro K hK; go_big_quiet_step (fail); refine Mix.lex_on hK ?_; clear hK K) | (refine Mix.lex_skip rfl ?_; simp only [Act.put, List.setIfInBounds_toArray, List.set_cons_zero, List.set_cons_succ]))
    refine Mix.lex_call (refamount_any p.2 (W i0) H2.out) rfl rfl rfl (fun _ => rfl) ?_
    rintro e2 w2 ⟨rfl, rfl⟩
    refine ⟨_, rfl, ⟨i0, rfl⟩, ?_⟩
    simp only [Act.put, List.setIfInBounds_toArray, List.set_cons_zero, List.set_cons_succ]
    repeat (first | (refine Mix.lex_step rfl ?_; intro K hK; go_big_quiet_step (fail); refine Mix.lex_on hK ?_; clear hK K) | (refine Mix.lex_skip rfl ?_; simp only [Act.put, List.setIfInBounds_toArray, List.set_cons_zero, List.set_cons_succ]))
    refine Mix.lex_nil ?_
    have HBZ := HWB i0
    have z0 := d0 i0
    have z1 := d1 i0
    clear HWB HWK d0 d1 hW hC
    generalize W i0 = wz at *
    go_wp2_with fail
    refine (refamount_any p.2 wz H2.out).mono ?_
    rintro e3 w3 ⟨rfl, rfl⟩
    go_wp2
    go_ret
    exact ⟨rfl, by rw [hgb]; exact HBZ.out⟩

set_option maxHeartbeats 1600000 in
set_option maxRecDepth 100000 in
theorem refside_any (a b c : Int × Int) (w : World) : Calls Try.prog 12 #[.agg #[.int .i64 a.1, .int .i64 a.2], .agg #[.int .i64 b.1, .int .i64 b.2], .agg #[.int .i64 c.1, .int .i64 c.2]] w fun e w' => e = .returned (.int .i64 (side a.1 a.2 b.1 b.2 c.1 c.2)) ∧ Below w.heap.size w w' := by
  obtain ⟨ax, ay⟩ := a
  obtain ⟨bx, by_⟩ := b
  obtain ⟨cx, cy⟩ := c
  simp only
  have HB : Hid (Below w.heap.size w (((w.alloc (.cells #[.int .i64 ax, .int .i64 ay] 23)).alloc (.cells #[.int .i64 bx, .int .i64 by_] 23)).alloc (.cells #[.int .i64 cx, .int .i64 cy] 23))) := (((Below.refl _ _).alloc (Nat.le_refl _) _).alloc (by simp) _).alloc (by simp; omega) _
  cases ha : decide (may ax ay) with
  | false =>
    have hs : side ax ay bx by_ cx cy = 0 := by unfold side; rw [if_neg (fun h => of_decide_eq_false ha h.1)]
    rw [hs]
    go_enter Try.func12, Try.ntmps12
    go_wp2_with fail
    refine (refmay_any ax ay _).mono ?_
    rw [ha]
    rintro e1 w1 ⟨rfl, rfl⟩
    go_wp2
    go_ret
    exact ⟨rfl, HB.out⟩
  | true =>
    cases hb : decide (may bx by_) with
    | false =>
      have hs : side ax ay bx by_ cx cy = 0 := by unfold side; rw [if_neg (fun h => of_decide_eq_false hb h.2.1)]
      rw [hs]
      go_enter Try.func12, Try.ntmps12
      go_wp2_with fail
      refine (refmay_any ax ay _).mono ?_
      rw [ha]
      rintro e1 w1 ⟨rfl, rfl⟩
      go_wp2_with fail
      refine (refmay_any bx by_ _).mono ?_
      rw [hb]
      rintro e1 w1 ⟨rfl, rfl⟩
      go_wp2
      go_ret
      exact ⟨rfl, HB.out⟩
    | true =>
      cases hc : decide (may cx cy) with
      | false =>
        have hs : side ax ay bx by_ cx cy = 0 := by unfold side; rw [if_neg (fun h => of_decide_eq_false hc h.2.2)]
        rw [hs]
        go_enter Try.func12, Try.ntmps12
        go_wp2_with fail
        refine (refmay_any ax ay _).mono ?_
        rw [ha]
        rintro e1 w1 ⟨rfl, rfl⟩
        go_wp2_with fail
        refine (refmay_any bx by_ _).mono ?_
        rw [hb]
        rintro e1 w1 ⟨rfl, rfl⟩
        go_wp2_with fail
        refine (refmay_any cx cy _).mono ?_
        rw [hc]
        rintro e1 w1 ⟨rfl, rfl⟩
        go_wp2
        go_ret
        exact ⟨rfl, HB.out⟩
      | true =>
        have ma : may ax ay := of_decide_eq_true ha
        have mb : may bx by_ := of_decide_eq_true hb
        have mc : may cx cy := of_decide_eq_true hc
        have hs : side ax ay bx by_ cx cy = sgn ((bx - ax) * (cy - ay) - (by_ - ay) * (cx - ax)) := by unfold side cross; rw [if_pos ⟨ma, mb, mc⟩]
        rw [hs]
        have d1 := diff_in mb.1 ma.1
        have d2 := diff_in mc.2 ma.2
        have d3 := diff_in mb.2 ma.2
        have d4 := diff_in mc.1 ma.1
        have q1 := mul_in d1 d2
        have q2 := mul_in d3 d4
        have m1 : IntKind.i64.wrap (bx - ax) = bx - ax := IntWalk.i64_in _ ⟨by omega, by omega⟩
        have m2 : IntKind.i64.wrap (cy - ay) = cy - ay := IntWalk.i64_in _ ⟨by omega, by omega⟩
        have m3 : IntKind.i64.wrap (by_ - ay) = by_ - ay := IntWalk.i64_in _ ⟨by omega, by omega⟩
        have m4 : IntKind.i64.wrap (cx - ax) = cx - ax := IntWalk.i64_in _ ⟨by omega, by omega⟩
        have m5 : IntKind.i64.wrap ((bx - ax) * (cy - ay)) = (bx - ax) * (cy - ay) := IntWalk.i64_in _ ⟨by omega, by omega⟩
        have m6 : IntKind.i64.wrap ((by_ - ay) * (cx - ax)) = (by_ - ay) * (cx - ax) := IntWalk.i64_in _ ⟨by omega, by omega⟩
        have m7 : IntKind.i64.wrap ((bx - ax) * (cy - ay) - (by_ - ay) * (cx - ax)) = (bx - ax) * (cy - ay) - (by_ - ay) * (cx - ax) := IntWalk.i64_in _ ⟨by omega, by omega⟩
        clear ma mb mc d1 d2 d3 d4 q1 q2 hs
        obtain ⟨t, ht⟩ : ∃ t, (bx - ax) * (cy - ay) - (by_ - ay) * (cx - ax) = t := ⟨_, rfl⟩
        rw [ht] at m7 ⊢
        by_cases gp : 0 < t
        · have hv : sgn t = 1 := by unfold sgn; rw [if_pos gp]
          have e1 : decide (0 < t) = true := decide_eq_true gp
          rw [hv]
          clear hv
          go_enter Try.func12, Try.ntmps12
          go_wp2_with fail
          refine (refmay_any ax ay _).mono ?_
          rw [ha]
          rintro e1 w1 ⟨rfl, rfl⟩
          go_wp2_with fail
          refine (refmay_any bx by_ _).mono ?_
          rw [hb]
          rintro e1 w1 ⟨rfl, rfl⟩
          go_wp2_with fail
          refine (refmay_any cx cy _).mono ?_
          rw [hc]
          rintro e1 w1 ⟨rfl, rfl⟩
          go_wp2
          go_ret
          exact ⟨rfl, HB.out⟩
        by_cases gn : t < 0
        · have hv : sgn t = -1 := by unfold sgn; rw [if_neg gp, if_pos gn]
          have e1 : decide (0 < t) = false := decide_eq_false gp
          have e2 : decide (t < 0) = true := decide_eq_true gn
          rw [hv]
          clear hv
          go_enter Try.func12, Try.ntmps12
          go_wp2_with fail
          refine (refmay_any ax ay _).mono ?_
          rw [ha]
          rintro e1 w1 ⟨rfl, rfl⟩
          go_wp2_with fail
          refine (refmay_any bx by_ _).mono ?_
          rw [hb]
          rintro e1 w1 ⟨rfl, rfl⟩
          go_wp2_with fail
          refine (refmay_any cx cy _).mono ?_
          rw [hc]
          rintro e1 w1 ⟨rfl, rfl⟩
          go_wp2
          go_ret
          exact ⟨rfl, HB.out⟩
        have hv : sgn t = 0 := by unfold sgn; rw [if_neg gp, if_neg gn]
        have e1 : decide (0 < t) = false := decide_eq_false gp
        have e2 : decide (t < 0) = false := decide_eq_false gn
        rw [hv]
        clear hv
        go_enter Try.func12, Try.ntmps12
        go_wp2_with fail
        refine (refmay_any ax ay _).mono ?_
        rw [ha]
        rintro e1 w1 ⟨rfl, rfl⟩
        go_wp2_with fail
        refine (refmay_any bx by_ _).mono ?_
        rw [hb]
        rintro e1 w1 ⟨rfl, rfl⟩
        go_wp2_with fail
        refine (refmay_any cx cy _).mono ?_
        rw [hc]
        rintro e1 w1 ⟨rfl, rfl⟩
        go_wp2
        go_ret
        exact ⟨rfl, HB.out⟩
end Go.Proofs.Ytngjgdikooaknaa.Ge
