/- Layer 12 (revoke): RevokeTells as a walk, out of what the program's functions must do. -/
import Derived.Test.YtfmmpmpafgbidaaRvL
namespace Go.Proofs.Ytfmmpmpafgbidaa.Rv
open Go.RowKit Rec

theorem addT_no {l : List P} {x : P} (h : ¬ (Rt l ∧ okp x)) : addT l x = ([], 2) := by unfold addT; rw [if_neg h]
theorem rt_one (x : P) : Rt [x] ↔ okp x := ⟨fun h => h.ok x (by simp), fun h => ⟨fun p hp => by rw [List.mem_singleton.1 hp]; exact h, by simp [Asc], by simp⟩⟩

set_option maxHeartbeats 3200000 in
set_option maxRecDepth 100000 in
theorem tells_walk (hR : RightOk) (hH : HasOk) (hP : PruneOk) (hA : AddOk) (A : Option Addr) (n c : Nat) (l : List P) (x : P) (n0 n1 : Int) (w : World) (h : RRow rvS w w.heap.size A n l) (hnil : A = none → c = 0) (hnc : n ≤ c) (hcm : c ≤ maxLen) :
    Calls Try.prog 3 #[.slice A n c, .agg #[.int .i64 x.1, .int .i64 x.2], .agg #[.int .i64 n0, .int .i64 n1]] w fun e w' => e = .returned (.bool true) ∧ Below w.heap.size w w' := by
  have H := Lib.hid h
  have HX := Lib.hid (And.intro hnil (And.intro hnc hcm))
  have HL := Lib.hid h.len
  have HB : Hid (Bx w x n0 n1 ((w.alloc (.cells #[.int .i64 x.1, .int .i64 x.2] 24)).alloc (.cells #[.int .i64 n0, .int .i64 n1] 25))) :=
    ⟨heap_alloc2_old w _ _, heap_alloc2_new w _ _, ((Below.refl _ _).alloc (Nat.le_refl _) _).alloc (by simp) _⟩
  clear h hnil hnc hcm
  go_enter Try.func3, Try.ntmps3
  go_wp2_with fail
  refine (awake_any hA hH _).mono ?_
  rintro e1 w1 ⟨rfl, hb1⟩
  have HB1 := Lib.hid (HB.out.below hb1)
  clear hb1 HB
  by_cases hbig : 5000 < n
  · have hd : decide (5000 < (n : Int)) = true := decide_eq_true (by omega)
    go_wp2
    go_ret
    exact ⟨rfl, HB1.out.bel⟩
  have hd : decide (5000 < (n : Int)) = false := decide_eq_false (by omega)
  have H1 := Lib.hid ((H.out.below HB1.out.bel).more HB1.out.bel.size)
  have HRL := Lib.hid (rest_len x false l)
  cases hr : decide (Rt l) with
  | false =>
    go_wp2_with fail
    refine (refright_any A n c _ l w1 H1.out (by omega)).mono ?_
    rw [hr]
    rintro e2 w2 ⟨rfl, q2, rfl⟩
    have HB2 : Hid (Bx w x n0 n1 (w1.drewN q2)) := ⟨HB1.out.xb, HB1.out.nb, ⟨HB1.out.bel.os, HB1.out.bel.tape, HB1.out.bel.output, HB1.out.bel.size, HB1.out.bel.block⟩⟩
    generalize w1.drewN q2 = w2 at HB2 ⊢
    clear H1 HB1
    go_wp2_with fail
    obtain ⟨ι, hne, W, i0, h0, hW, hC⟩ := fam_of w2
    have HBW : ∀ i, Hid (Bx w x n0 n1 (W i)) := fun i => HB2.out.below (hW i)
    have d0 : ∀ i, (W i).cell? ⟨w.heap.size + 1, 0, none⟩ = some (.int .i64 n0) := fun i => cell_of_blk (HBW i).out.nb rfl
    have d1 : ∀ i, (W i).cell? ⟨w.heap.size + 1, 1, none⟩ = some (.int .i64 n1) := fun i => cell_of_blk (HBW i).out.nb rfl
    have HWR : ∀ i, Hid (RRow rvS (W i) (W i).heap.size A n l) := fun i => (H.out.below (HBW i).out.bel).more (HBW i).out.bel.size
    refine Mix.wp_region_lex (fun w' => ∃ i, w' = W i) (by kernel_rfl) (by kernel_rfl) ⟨i0, h0⟩ ?_
    rw [h0]
    clear h0
    repeat (first | (refine Mix.lex_step rfl ?_; intro K hK; go_big_quiet_step (fail); refine Mix.lex_on hK ?_; clear hK K) | (refine Mix.lex_skip rfl ?_; simp only [Act.put, List.setIfInBounds_toArray, List.set_cons_zero, List.set_cons_succ]))
    refine Mix.lex_call (hR A n c l (W i0) (HWR i0).out HX.out.1 HX.out.2.1 HX.out.2.2 (by omega)) rfl rfl rfl (fun _ => rfl) ?_
    rw [hr]
    rintro e3 w3 ⟨rfl, hb3⟩
    obtain ⟨j3, rfl⟩ := hC _ w3 hb3
    refine ⟨_, rfl, ⟨j3, rfl⟩, ?_⟩
    simp only [Act.put, List.setIfInBounds_toArray, List.set_cons_zero, List.set_cons_succ]
    repeat (first | (refine Mix.lex_step rfl ?_; intro K hK; go_big_quiet_step (fail); refine Mix.lex_on hK ?_; clear hK K) | (refine Mix.lex_skip rfl ?_; simp only [Act.put, List.setIfInBounds_toArray, List.set_cons_zero, List.set_cons_succ]))
    refine Mix.lex_call (hP A n c l n0 (W j3) (HWR j3).out HX.out.1 HX.out.2.1 HX.out.2.2 (by omega)) rfl rfl rfl (fun _ => rfl) ?_
    rintro e4 w4 ⟨v4, rfl, A4, n4, c4, rfl, hr4, hnil4, hnc4, hcm4, hb4⟩
    obtain ⟨j4, rfl⟩ := hC _ w4 hb4
    obtain rfl := hr4.len
    have HR4 := Lib.hid hr4
    clear hr4
    refine ⟨_, rfl, ⟨j4, rfl⟩, ?_⟩
    simp only [Act.put, List.setIfInBounds_toArray, List.set_cons_zero, List.set_cons_succ]
    repeat (first | (refine Mix.lex_step rfl ?_; intro K hK; go_big_quiet_step (fail); refine Mix.lex_on hK ?_; clear hK K) | (refine Mix.lex_skip rfl ?_; simp only [Act.put, List.setIfInBounds_toArray, List.set_cons_zero, List.set_cons_succ]))
    refine Mix.lex_call (refprune_any A n c l n0 (W j4) (HWR j4).out (by omega)) rfl rfl rfl (fun _ => rfl) ?_
    rintro e5 w5 ⟨v5, rfl, A5, n5, c5, rfl, hr5, hnil5, hnc5, hcm5, hb5⟩
    obtain ⟨j5, rfl⟩ := hC _ w5 hb5
    obtain rfl := hr5.len
    have HR5 := Lib.hid hr5
    have HR4' := Lib.hid (HR4.out.below hb5)
    clear hr5 hb5 HR4
    refine ⟨_, rfl, ⟨j5, rfl⟩, ?_⟩
    simp only [Act.put, List.setIfInBounds_toArray, List.set_cons_zero, List.set_cons_succ]
    repeat (first | (refine Mix.lex_step rfl ?_; intro K hK; go_big_quiet_step (fail); refine Mix.lex_on hK ?_; clear hK K) | (refine Mix.lex_skip rfl ?_; simp only [Act.put, List.setIfInBounds_toArray, List.set_cons_zero, List.set_cons_succ]))
    refine Mix.lex_call (refsame_any A4 A5 _ c4 c5 _ _ (prune l n0) (W j5) (by have := prune_len l n0; have := HL.out; omega) HR4'.out HR5.out) rfl rfl rfl (fun _ => rfl) ?_
    rintro e6 w6 ⟨rfl, q6, hq6⟩
    have hb6 : Below (W j5).heap.size (W j5) w6 := by rw [hq6]; exact ⟨rfl, rfl, rfl, Nat.le_refl _, fun _ _ => rfl⟩
    clear hq6
    obtain ⟨j6, rfl⟩ := hC _ w6 hb6
    refine ⟨_, rfl, ⟨j6, rfl⟩, ?_⟩
    simp only [Act.put, List.setIfInBounds_toArray, List.set_cons_zero, List.set_cons_succ]
    repeat (first | (refine Mix.lex_step rfl ?_; intro K hK; go_big_quiet_step (fail); refine Mix.lex_on hK ?_; clear hK K) | (refine Mix.lex_skip rfl ?_; simp only [Act.put, List.setIfInBounds_toArray, List.set_cons_zero, List.set_cons_succ]))
    refine Mix.lex_nil ?_
    have HB9 := HBW j6
    have HR9 := HWR j6
    have x0 : (W j6).cell? ⟨w.heap.size, 0, none⟩ = some (.int .i64 x.1) := cell_of_blk HB9.out.xb rfl
    have x1 : (W j6).cell? ⟨w.heap.size, 1, none⟩ = some (.int .i64 x.2) := cell_of_blk HB9.out.xb rfl
    clear HBW d0 d1 HWR hW hC HR4' HR5
    generalize W j6 = w9 at *
    go_wp2_with fail
    have HT := Lib.hid (addT_no (x := x) (fun h => of_decide_eq_false hr h.1))
    refine (hA A n c l x w9 HR9.out HX.out.1 HX.out.2.1 HX.out.2.2 (by omega)).mono ?_
    rw [HT.out]
    rintro e10 w10 ⟨v10, rfl, A10, n10, c10, rfl, hr10, -, hnc10, -, hb10⟩
    obtain rfl := hr10.len
    have HR10 := Lib.hid hr10
    have HB10 := Lib.hid (HB9.out.below hb10)
    have HRA := Lib.hid ((HR9.out.below hb10).more hb10.size)
    have y0 : w10.cell? ⟨w.heap.size, 0, none⟩ = some (.int .i64 x.1) := cell_of_blk HB10.out.xb rfl
    have y1 : w10.cell? ⟨w.heap.size, 1, none⟩ = some (.int .i64 x.2) := cell_of_blk HB10.out.xb rfl
    clear hr10 hb10 x0 x1 HR9 HB9
    go_wp2_with fail
    refine (refadd_any A n c l x w10 HRA.out (by omega)).mono ?_
    rintro e11 w11 ⟨v11, rfl, A11, n11, c11, rfl, hr11, -, hnc11, -, hb11⟩
    obtain rfl := hr11.len
    have HR11 := Lib.hid hr11
    have HR10' := Lib.hid (HR10.out.below hb11)
    have HS11 := Lib.hid hb11.size
    have HB11 := Lib.hid (HB10.out.below hb11)
    have z0 : w11.cell? ⟨w.heap.size, 0, none⟩ = some (.int .i64 x.1) := cell_of_blk HB11.out.xb rfl
    have z1 : w11.cell? ⟨w.heap.size, 1, none⟩ = some (.int .i64 x.2) := cell_of_blk HB11.out.xb rfl
    clear hr11 hb11 y0 y1 HR10 HB10 HRA
    go_wp2
    go_ret
    exact ⟨rfl, HB11.out.bel⟩
  | true =>
    have hrt : Rt l := of_decide_eq_true hr
    have HRT := Lib.hid hrt
    clear hrt
    cases hh : has l n1 n0 with
    | false =>
      go_wp2_with fail
      refine (refright_any A n c _ l w1 H1.out (by omega)).mono ?_
      rw [hr]
      rintro e2 w2 ⟨rfl, q2, rfl⟩
      have HB2 : Hid (Bx w x n0 n1 (w1.drewN q2)) := ⟨HB1.out.xb, HB1.out.nb, ⟨HB1.out.bel.os, HB1.out.bel.tape, HB1.out.bel.output, HB1.out.bel.size, HB1.out.bel.block⟩⟩
      generalize w1.drewN q2 = w2 at HB2 ⊢
      clear H1 HB1
      go_wp2_with fail
      obtain ⟨ι, hne, W, i0, h0, hW, hC⟩ := fam_of w2
      have HBW : ∀ i, Hid (Bx w x n0 n1 (W i)) := fun i => HB2.out.below (hW i)
      have d0 : ∀ i, (W i).cell? ⟨w.heap.size + 1, 0, none⟩ = some (.int .i64 n0) := fun i => cell_of_blk (HBW i).out.nb rfl
      have d1 : ∀ i, (W i).cell? ⟨w.heap.size + 1, 1, none⟩ = some (.int .i64 n1) := fun i => cell_of_blk (HBW i).out.nb rfl
      have HWR : ∀ i, Hid (RRow rvS (W i) (W i).heap.size A n l) := fun i => (H.out.below (HBW i).out.bel).more (HBW i).out.bel.size
      refine Mix.wp_region_lex (fun w' => ∃ i, w' = W i) (by kernel_rfl) (by kernel_rfl) ⟨i0, h0⟩ ?_
      rw [h0]
      clear h0
      repeat (first | (refine Mix.lex_step rfl ?_; intro K hK; go_big_quiet_step (fail); refine Mix.lex_on hK ?_; clear hK K) | (refine Mix.lex_skip rfl ?_; simp only [Act.put, List.setIfInBounds_toArray, List.set_cons_zero, List.set_cons_succ]))
      refine Mix.lex_call (hR A n c l (W i0) (HWR i0).out HX.out.1 HX.out.2.1 HX.out.2.2 (by omega)) rfl rfl rfl (fun _ => rfl) ?_
      rw [hr]
      rintro e3 w3 ⟨rfl, hb3⟩
      obtain ⟨j3, rfl⟩ := hC _ w3 hb3
      refine ⟨_, rfl, ⟨j3, rfl⟩, ?_⟩
      simp only [Act.put, List.setIfInBounds_toArray, List.set_cons_zero, List.set_cons_succ]
      repeat (first | (refine Mix.lex_step rfl ?_; intro K hK; go_big_quiet_step (fail); refine Mix.lex_on hK ?_; clear hK K) | (refine Mix.lex_skip rfl ?_; simp only [Act.put, List.setIfInBounds_toArray, List.set_cons_zero, List.set_cons_succ]))
      refine Mix.lex_call (hP A n c l n0 (W j3) (HWR j3).out HX.out.1 HX.out.2.1 HX.out.2.2 (by omega)) rfl rfl rfl (fun _ => rfl) ?_
      rintro e4 w4 ⟨v4, rfl, A4, n4, c4, rfl, hr4, hnil4, hnc4, hcm4, hb4⟩
      obtain ⟨j4, rfl⟩ := hC _ w4 hb4
      obtain rfl := hr4.len
      have HR4 := Lib.hid hr4
      clear hr4
      refine ⟨_, rfl, ⟨j4, rfl⟩, ?_⟩
      simp only [Act.put, List.setIfInBounds_toArray, List.set_cons_zero, List.set_cons_succ]
      repeat (first | (refine Mix.lex_step rfl ?_; intro K hK; go_big_quiet_step (fail); refine Mix.lex_on hK ?_; clear hK K) | (refine Mix.lex_skip rfl ?_; simp only [Act.put, List.setIfInBounds_toArray, List.set_cons_zero, List.set_cons_succ]))
      refine Mix.lex_call (refprune_any A n c l n0 (W j4) (HWR j4).out (by omega)) rfl rfl rfl (fun _ => rfl) ?_
      rintro e5 w5 ⟨v5, rfl, A5, n5, c5, rfl, hr5, hnil5, hnc5, hcm5, hb5⟩
      obtain ⟨j5, rfl⟩ := hC _ w5 hb5
      obtain rfl := hr5.len
      have HR5 := Lib.hid hr5
      have HR4' := Lib.hid (HR4.out.below hb5)
      clear hr5 hb5 HR4
      refine ⟨_, rfl, ⟨j5, rfl⟩, ?_⟩
      simp only [Act.put, List.setIfInBounds_toArray, List.set_cons_zero, List.set_cons_succ]
      repeat (first | (refine Mix.lex_step rfl ?_; intro K hK; go_big_quiet_step (fail); refine Mix.lex_on hK ?_; clear hK K) | (refine Mix.lex_skip rfl ?_; simp only [Act.put, List.setIfInBounds_toArray, List.set_cons_zero, List.set_cons_succ]))
      refine Mix.lex_call (refsame_any A4 A5 _ c4 c5 _ _ (prune l n0) (W j5) (by have := prune_len l n0; have := HL.out; omega) HR4'.out HR5.out) rfl rfl rfl (fun _ => rfl) ?_
      rintro e6 w6 ⟨rfl, q6, hq6⟩
      have hb6 : Below (W j5).heap.size (W j5) w6 := by rw [hq6]; exact ⟨rfl, rfl, rfl, Nat.le_refl _, fun _ _ => rfl⟩
      clear hq6
      obtain ⟨j6, rfl⟩ := hC _ w6 hb6
      refine ⟨_, rfl, ⟨j6, rfl⟩, ?_⟩
      simp only [Act.put, List.setIfInBounds_toArray, List.set_cons_zero, List.set_cons_succ]
      repeat (first | (refine Mix.lex_step rfl ?_; intro K hK; go_big_quiet_step (fail); refine Mix.lex_on hK ?_; clear hK K) | (refine Mix.lex_skip rfl ?_; simp only [Act.put, List.setIfInBounds_toArray, List.set_cons_zero, List.set_cons_succ]))
      refine Mix.lex_call (hH A n c l n1 n0 (W j6) (HWR j6).out HX.out.1 HX.out.2.1 HX.out.2.2 HRT.out) rfl rfl rfl (fun _ => rfl) ?_
      rw [hh]
      rintro e7 w7 ⟨rfl, hb7⟩
      obtain ⟨j7, rfl⟩ := hC _ w7 hb7
      refine ⟨_, rfl, ⟨j7, rfl⟩, ?_⟩
      simp only [Act.put, List.setIfInBounds_toArray, List.set_cons_zero, List.set_cons_succ]
      repeat (first | (refine Mix.lex_step rfl ?_; intro K hK; go_big_quiet_step (fail); refine Mix.lex_on hK ?_; clear hK K) | (refine Mix.lex_skip rfl ?_; simp only [Act.put, List.setIfInBounds_toArray, List.set_cons_zero, List.set_cons_succ]))
      refine Mix.lex_call (refhas_any A n c _ l n1 n0 (W j7) (HWR j7).out (by omega)) rfl rfl rfl (fun _ => rfl) ?_
      rw [hh]
      rintro e8 w8 ⟨rfl, q8, hq8⟩
      have hb8 : Below (W j7).heap.size (W j7) w8 := by rw [hq8]; exact ⟨rfl, rfl, rfl, Nat.le_refl _, fun _ _ => rfl⟩
      clear hq8
      obtain ⟨j8, rfl⟩ := hC _ w8 hb8
      refine ⟨_, rfl, ⟨j8, rfl⟩, ?_⟩
      simp only [Act.put, List.setIfInBounds_toArray, List.set_cons_zero, List.set_cons_succ]
      repeat (first | (refine Mix.lex_step rfl ?_; intro K hK; go_big_quiet_step (fail); refine Mix.lex_on hK ?_; clear hK K) | (refine Mix.lex_skip rfl ?_; simp only [Act.put, List.setIfInBounds_toArray, List.set_cons_zero, List.set_cons_succ]))
      refine Mix.lex_nil ?_
      have HB9 := HBW j8
      have HR9 := HWR j8
      have x0 : (W j8).cell? ⟨w.heap.size, 0, none⟩ = some (.int .i64 x.1) := cell_of_blk HB9.out.xb rfl
      have x1 : (W j8).cell? ⟨w.heap.size, 1, none⟩ = some (.int .i64 x.2) := cell_of_blk HB9.out.xb rfl
      clear HBW d0 d1 HWR hW hC HR4' HR5
      generalize W j8 = w9 at *
      go_wp2_with fail
      by_cases ho : okp x
      · by_cases hl : (add l x).length ≤ 4096
        · have HT : Hid (addT l x = (add l x, 0)) := by unfold Hid addT; rw [if_pos ⟨HRT.out, ho⟩, if_pos hl]
          refine (hA A n c l x w9 HR9.out HX.out.1 HX.out.2.1 HX.out.2.2 (by omega)).mono ?_
          rw [HT.out]
          rintro e10 w10 ⟨v10, rfl, A10, n10, c10, rfl, hr10, -, hnc10, -, hb10⟩
          obtain rfl := hr10.len
          have HR10 := Lib.hid hr10
          have HB10 := Lib.hid (HB9.out.below hb10)
          have HRA := Lib.hid ((HR9.out.below hb10).more hb10.size)
          have y0 : w10.cell? ⟨w.heap.size, 0, none⟩ = some (.int .i64 x.1) := cell_of_blk HB10.out.xb rfl
          have y1 : w10.cell? ⟨w.heap.size, 1, none⟩ = some (.int .i64 x.2) := cell_of_blk HB10.out.xb rfl
          clear hr10 hb10 x0 x1 HR9 HB9
          go_wp2_with fail
          refine (refadd_any A n c l x w10 HRA.out (by omega)).mono ?_
          rintro e11 w11 ⟨v11, rfl, A11, n11, c11, rfl, hr11, -, hnc11, -, hb11⟩
          obtain rfl := hr11.len
          have HR11 := Lib.hid hr11
          have HR10' := Lib.hid (HR10.out.below hb11)
          have HS11 := Lib.hid hb11.size
          have HB11 := Lib.hid (HB10.out.below hb11)
          have z0 : w11.cell? ⟨w.heap.size, 0, none⟩ = some (.int .i64 x.1) := cell_of_blk HB11.out.xb rfl
          have z1 : w11.cell? ⟨w.heap.size, 1, none⟩ = some (.int .i64 x.2) := cell_of_blk HB11.out.xb rfl
          clear hr11 hb11 y0 y1 HR10 HB10 HRA
          have HF : Hid (rest x false l = add l x) := rest_false HRT.out.asc
          rw [HF.out] at HR11 HRL ⊢
          have HLA := HRL.out
          have HLL := HL.out
          have HBA : Hid (Below w.heap.size w (w11.alloc (.cells #[.int .i64 x.1, .int .i64 x.2] 24))) := HB11.out.bel.alloc HB11.out.bel.size _
          have HRX : Hid (RRow rvS (w11.alloc (.cells #[.int .i64 x.1, .int .i64 x.2] 24)) (w11.heap.size + 1) (some ⟨w11.heap.size, 0, none⟩) 1 [x]) := RRow.of_blk (S := rvS) (l := [x]) (heap_alloc_new w11 _) (by omega) rfl
          have hbn : Below w11.heap.size w11 (w11.alloc (.cells #[.int .i64 x.1, .int .i64 x.2] 24)) := (Below.refl _ _).alloc (Nat.le_refl _) _
          have HR11' := Lib.hid (HR11.out.below hbn)
          have HR12 := Lib.hid ((HR10'.out.more HS11.out).below hbn)
          have HRO : Hid (decide (Rt [x]) = decide (okp x)) := decide_eq_decide.2 (rt_one x)
          clear hbn HR11
          go_wp2_with fail
          refine (refright_any _ 1 1 _ [x] _ HRX.out (by omega)).mono ?_
          rw [HRO.out, decide_eq_true ho]
          rintro e12 w12 ⟨rfl, q12, rfl⟩
          have HB12 : Hid (Below w.heap.size w ((w11.alloc (.cells #[.int .i64 x.1, .int .i64 x.2] 24)).drewN q12)) := ⟨HBA.out.os, HBA.out.tape, HBA.out.output, HBA.out.size, HBA.out.block⟩
          have HR13 := Lib.hid (HR11'.out.drewN q12)
          have HR14 := Lib.hid (HR12.out.drewN q12)
          clear HR11' HR12 HRX HBA z0 z1 HB11
          generalize (w11.alloc (.cells #[.int .i64 x.1, .int .i64 x.2] 24)).drewN q12 = w13 at *
          have hl4 : decide ((4096 : Int) < ((add l x).length : Int)) = false := decide_eq_false (by omega)
          have hl5 : decide (4096 < (add l x).length) = false := decide_eq_false (by omega)
          have hl6 : ¬ (4096 < (add l x).length) := by omega
          go_wp2_with fail
          refine (refsame_any A10 A11 _ c10 c11 _ _ (add l x) w13 (by omega) HR14.out HR13.out).mono ?_
          rintro e14 w14 ⟨rfl, q14, rfl⟩
          go_wp2
          go_ret
          exact ⟨rfl, ⟨HB12.out.os, HB12.out.tape, HB12.out.output, HB12.out.size, HB12.out.block⟩⟩
        · have HT : Hid (addT l x = ([], 3)) := by unfold Hid addT; rw [if_pos ⟨HRT.out, ho⟩, if_neg hl]
          refine (hA A n c l x w9 HR9.out HX.out.1 HX.out.2.1 HX.out.2.2 (by omega)).mono ?_
          rw [HT.out]
          rintro e10 w10 ⟨v10, rfl, A10, n10, c10, rfl, hr10, -, hnc10, -, hb10⟩
          obtain rfl := hr10.len
          have HR10 := Lib.hid hr10
          have HB10 := Lib.hid (HB9.out.below hb10)
          have HRA := Lib.hid ((HR9.out.below hb10).more hb10.size)
          have y0 : w10.cell? ⟨w.heap.size, 0, none⟩ = some (.int .i64 x.1) := cell_of_blk HB10.out.xb rfl
          have y1 : w10.cell? ⟨w.heap.size, 1, none⟩ = some (.int .i64 x.2) := cell_of_blk HB10.out.xb rfl
          clear hr10 hb10 x0 x1 HR9 HB9
          go_wp2_with fail
          refine (refadd_any A n c l x w10 HRA.out (by omega)).mono ?_
          rintro e11 w11 ⟨v11, rfl, A11, n11, c11, rfl, hr11, -, hnc11, -, hb11⟩
          obtain rfl := hr11.len
          have HR11 := Lib.hid hr11
          have HR10' := Lib.hid (HR10.out.below hb11)
          have HS11 := Lib.hid hb11.size
          have HB11 := Lib.hid (HB10.out.below hb11)
          have z0 : w11.cell? ⟨w.heap.size, 0, none⟩ = some (.int .i64 x.1) := cell_of_blk HB11.out.xb rfl
          have z1 : w11.cell? ⟨w.heap.size, 1, none⟩ = some (.int .i64 x.2) := cell_of_blk HB11.out.xb rfl
          clear hr11 hb11 y0 y1 HR10 HB10 HRA
          have HF : Hid (rest x false l = add l x) := rest_false HRT.out.asc
          rw [HF.out] at HR11 HRL ⊢
          have HLA := HRL.out
          have HLL := HL.out
          have HBA : Hid (Below w.heap.size w (w11.alloc (.cells #[.int .i64 x.1, .int .i64 x.2] 24))) := HB11.out.bel.alloc HB11.out.bel.size _
          have HRX : Hid (RRow rvS (w11.alloc (.cells #[.int .i64 x.1, .int .i64 x.2] 24)) (w11.heap.size + 1) (some ⟨w11.heap.size, 0, none⟩) 1 [x]) := RRow.of_blk (S := rvS) (l := [x]) (heap_alloc_new w11 _) (by omega) rfl
          have hbn : Below w11.heap.size w11 (w11.alloc (.cells #[.int .i64 x.1, .int .i64 x.2] 24)) := (Below.refl _ _).alloc (Nat.le_refl _) _
          have HR11' := Lib.hid (HR11.out.below hbn)
          have HR12 := Lib.hid ((HR10'.out.more HS11.out).below hbn)
          have HRO : Hid (decide (Rt [x]) = decide (okp x)) := decide_eq_decide.2 (rt_one x)
          clear hbn HR11
          go_wp2_with fail
          refine (refright_any _ 1 1 _ [x] _ HRX.out (by omega)).mono ?_
          rw [HRO.out, decide_eq_true ho]
          rintro e12 w12 ⟨rfl, q12, rfl⟩
          have HB12 : Hid (Below w.heap.size w ((w11.alloc (.cells #[.int .i64 x.1, .int .i64 x.2] 24)).drewN q12)) := ⟨HBA.out.os, HBA.out.tape, HBA.out.output, HBA.out.size, HBA.out.block⟩
          have HR13 := Lib.hid (HR11'.out.drewN q12)
          clear HR11' HR12 HRX HBA z0 z1 HB11
          generalize (w11.alloc (.cells #[.int .i64 x.1, .int .i64 x.2] 24)).drewN q12 = w13 at *
          have hl4 : decide ((4096 : Int) < ((add l x).length : Int)) = true := decide_eq_true (by omega)
          go_wp2
          go_ret
          exact ⟨rfl, HB12.out⟩
      · have HT := Lib.hid (addT_no (l := l) (fun h => ho h.2))
        refine (hA A n c l x w9 HR9.out HX.out.1 HX.out.2.1 HX.out.2.2 (by omega)).mono ?_
        rw [HT.out]
        rintro e10 w10 ⟨v10, rfl, A10, n10, c10, rfl, hr10, -, hnc10, -, hb10⟩
        obtain rfl := hr10.len
        have HR10 := Lib.hid hr10
        have HB10 := Lib.hid (HB9.out.below hb10)
        have HRA := Lib.hid ((HR9.out.below hb10).more hb10.size)
        have y0 : w10.cell? ⟨w.heap.size, 0, none⟩ = some (.int .i64 x.1) := cell_of_blk HB10.out.xb rfl
        have y1 : w10.cell? ⟨w.heap.size, 1, none⟩ = some (.int .i64 x.2) := cell_of_blk HB10.out.xb rfl
        clear hr10 hb10 x0 x1 HR9 HB9
        go_wp2_with fail
        refine (refadd_any A n c l x w10 HRA.out (by omega)).mono ?_
        rintro e11 w11 ⟨v11, rfl, A11, n11, c11, rfl, hr11, -, hnc11, -, hb11⟩
        obtain rfl := hr11.len
        have HR11 := Lib.hid hr11
        have HR10' := Lib.hid (HR10.out.below hb11)
        have HS11 := Lib.hid hb11.size
        have HB11 := Lib.hid (HB10.out.below hb11)
        have z0 : w11.cell? ⟨w.heap.size, 0, none⟩ = some (.int .i64 x.1) := cell_of_blk HB11.out.xb rfl
        have z1 : w11.cell? ⟨w.heap.size, 1, none⟩ = some (.int .i64 x.2) := cell_of_blk HB11.out.xb rfl
        clear hr11 hb11 y0 y1 HR10 HB10 HRA
        have HF : Hid (rest x false l = add l x) := rest_false HRT.out.asc
        rw [HF.out] at HR11 HRL ⊢
        have HLA := HRL.out
        have HLL := HL.out
        have HBA : Hid (Below w.heap.size w (w11.alloc (.cells #[.int .i64 x.1, .int .i64 x.2] 24))) := HB11.out.bel.alloc HB11.out.bel.size _
        have HRX : Hid (RRow rvS (w11.alloc (.cells #[.int .i64 x.1, .int .i64 x.2] 24)) (w11.heap.size + 1) (some ⟨w11.heap.size, 0, none⟩) 1 [x]) := RRow.of_blk (S := rvS) (l := [x]) (heap_alloc_new w11 _) (by omega) rfl
        have hbn : Below w11.heap.size w11 (w11.alloc (.cells #[.int .i64 x.1, .int .i64 x.2] 24)) := (Below.refl _ _).alloc (Nat.le_refl _) _
        have HR11' := Lib.hid (HR11.out.below hbn)
        have HR12 := Lib.hid ((HR10'.out.more HS11.out).below hbn)
        have HRO : Hid (decide (Rt [x]) = decide (okp x)) := decide_eq_decide.2 (rt_one x)
        clear hbn HR11
        go_wp2_with fail
        refine (refright_any _ 1 1 _ [x] _ HRX.out (by omega)).mono ?_
        rw [HRO.out, decide_eq_false ho]
        rintro e12 w12 ⟨rfl, q12, rfl⟩
        have HB12 : Hid (Below w.heap.size w ((w11.alloc (.cells #[.int .i64 x.1, .int .i64 x.2] 24)).drewN q12)) := ⟨HBA.out.os, HBA.out.tape, HBA.out.output, HBA.out.size, HBA.out.block⟩
        have HR13 := Lib.hid (HR11'.out.drewN q12)
        clear HR11' HR12 HRX HBA z0 z1 HB11
        generalize (w11.alloc (.cells #[.int .i64 x.1, .int .i64 x.2] 24)).drewN q12 = w13 at *
        go_wp2
        go_ret
        exact ⟨rfl, HB12.out⟩
    | true =>
      go_wp2_with fail
      refine (refright_any A n c _ l w1 H1.out (by omega)).mono ?_
      rw [hr]
      rintro e2 w2 ⟨rfl, q2, rfl⟩
      have HB2 : Hid (Bx w x n0 n1 (w1.drewN q2)) := ⟨HB1.out.xb, HB1.out.nb, ⟨HB1.out.bel.os, HB1.out.bel.tape, HB1.out.bel.output, HB1.out.bel.size, HB1.out.bel.block⟩⟩
      generalize w1.drewN q2 = w2 at HB2 ⊢
      clear H1 HB1
      go_wp2_with fail
      obtain ⟨ι, hne, W, i0, h0, hW, hC⟩ := fam_of w2
      have HBW : ∀ i, Hid (Bx w x n0 n1 (W i)) := fun i => HB2.out.below (hW i)
      have d0 : ∀ i, (W i).cell? ⟨w.heap.size + 1, 0, none⟩ = some (.int .i64 n0) := fun i => cell_of_blk (HBW i).out.nb rfl
      have d1 : ∀ i, (W i).cell? ⟨w.heap.size + 1, 1, none⟩ = some (.int .i64 n1) := fun i => cell_of_blk (HBW i).out.nb rfl
      have HWR : ∀ i, Hid (RRow rvS (W i) (W i).heap.size A n l) := fun i => (H.out.below (HBW i).out.bel).more (HBW i).out.bel.size
      refine Mix.wp_region_lex (fun w' => ∃ i, w' = W i) (by kernel_rfl) (by kernel_rfl) ⟨i0, h0⟩ ?_
      rw [h0]
      clear h0
      repeat (first | (refine Mix.lex_step rfl ?_; intro K hK; go_big_quiet_step (fail); refine Mix.lex_on hK ?_; clear hK K) | (refine Mix.lex_skip rfl ?_; simp only [Act.put, List.setIfInBounds_toArray, List.set_cons_zero, List.set_cons_succ]))
      refine Mix.lex_call (hR A n c l (W i0) (HWR i0).out HX.out.1 HX.out.2.1 HX.out.2.2 (by omega)) rfl rfl rfl (fun _ => rfl) ?_
      rw [hr]
      rintro e3 w3 ⟨rfl, hb3⟩
      obtain ⟨j3, rfl⟩ := hC _ w3 hb3
      refine ⟨_, rfl, ⟨j3, rfl⟩, ?_⟩
      simp only [Act.put, List.setIfInBounds_toArray, List.set_cons_zero, List.set_cons_succ]
      repeat (first | (refine Mix.lex_step rfl ?_; intro K hK; go_big_quiet_step (fail); refine Mix.lex_on hK ?_; clear hK K) | (refine Mix.lex_skip rfl ?_; simp only [Act.put, List.setIfInBounds_toArray, List.set_cons_zero, List.set_cons_succ]))
      refine Mix.lex_call (hP A n c l n0 (W j3) (HWR j3).out HX.out.1 HX.out.2.1 HX.out.2.2 (by omega)) rfl rfl rfl (fun _ => rfl) ?_
      rintro e4 w4 ⟨v4, rfl, A4, n4, c4, rfl, hr4, hnil4, hnc4, hcm4, hb4⟩
      obtain ⟨j4, rfl⟩ := hC _ w4 hb4
      obtain rfl := hr4.len
      have HR4 := Lib.hid hr4
      clear hr4
      refine ⟨_, rfl, ⟨j4, rfl⟩, ?_⟩
      simp only [Act.put, List.setIfInBounds_toArray, List.set_cons_zero, List.set_cons_succ]
      repeat (first | (refine Mix.lex_step rfl ?_; intro K hK; go_big_quiet_step (fail); refine Mix.lex_on hK ?_; clear hK K) | (refine Mix.lex_skip rfl ?_; simp only [Act.put, List.setIfInBounds_toArray, List.set_cons_zero, List.set_cons_succ]))
      refine Mix.lex_call (refprune_any A n c l n0 (W j4) (HWR j4).out (by omega)) rfl rfl rfl (fun _ => rfl) ?_
      rintro e5 w5 ⟨v5, rfl, A5, n5, c5, rfl, hr5, hnil5, hnc5, hcm5, hb5⟩
      obtain ⟨j5, rfl⟩ := hC _ w5 hb5
      obtain rfl := hr5.len
      have HR5 := Lib.hid hr5
      have HR4' := Lib.hid (HR4.out.below hb5)
      clear hr5 hb5 HR4
      refine ⟨_, rfl, ⟨j5, rfl⟩, ?_⟩
      simp only [Act.put, List.setIfInBounds_toArray, List.set_cons_zero, List.set_cons_succ]
      repeat (first | (refine Mix.lex_step rfl ?_; intro K hK; go_big_quiet_step (fail); refine Mix.lex_on hK ?_; clear hK K) | (refine Mix.lex_skip rfl ?_; simp only [Act.put, List.setIfInBounds_toArray, List.set_cons_zero, List.set_cons_succ]))
      refine Mix.lex_call (refsame_any A4 A5 _ c4 c5 _ _ (prune l n0) (W j5) (by have := prune_len l n0; have := HL.out; omega) HR4'.out HR5.out) rfl rfl rfl (fun _ => rfl) ?_
      rintro e6 w6 ⟨rfl, q6, hq6⟩
      have hb6 : Below (W j5).heap.size (W j5) w6 := by rw [hq6]; exact ⟨rfl, rfl, rfl, Nat.le_refl _, fun _ _ => rfl⟩
      clear hq6
      obtain ⟨j6, rfl⟩ := hC _ w6 hb6
      refine ⟨_, rfl, ⟨j6, rfl⟩, ?_⟩
      simp only [Act.put, List.setIfInBounds_toArray, List.set_cons_zero, List.set_cons_succ]
      repeat (first | (refine Mix.lex_step rfl ?_; intro K hK; go_big_quiet_step (fail); refine Mix.lex_on hK ?_; clear hK K) | (refine Mix.lex_skip rfl ?_; simp only [Act.put, List.setIfInBounds_toArray, List.set_cons_zero, List.set_cons_succ]))
      refine Mix.lex_call (hH A n c l n1 n0 (W j6) (HWR j6).out HX.out.1 HX.out.2.1 HX.out.2.2 HRT.out) rfl rfl rfl (fun _ => rfl) ?_
      rw [hh]
      rintro e7 w7 ⟨rfl, hb7⟩
      obtain ⟨j7, rfl⟩ := hC _ w7 hb7
      refine ⟨_, rfl, ⟨j7, rfl⟩, ?_⟩
      simp only [Act.put, List.setIfInBounds_toArray, List.set_cons_zero, List.set_cons_succ]
      repeat (first | (refine Mix.lex_step rfl ?_; intro K hK; go_big_quiet_step (fail); refine Mix.lex_on hK ?_; clear hK K) | (refine Mix.lex_skip rfl ?_; simp only [Act.put, List.setIfInBounds_toArray, List.set_cons_zero, List.set_cons_succ]))
      refine Mix.lex_call (refhas_any A n c _ l n1 n0 (W j7) (HWR j7).out (by omega)) rfl rfl rfl (fun _ => rfl) ?_
      rw [hh]
      rintro e8 w8 ⟨rfl, q8, hq8⟩
      have hb8 : Below (W j7).heap.size (W j7) w8 := by rw [hq8]; exact ⟨rfl, rfl, rfl, Nat.le_refl _, fun _ _ => rfl⟩
      clear hq8
      obtain ⟨j8, rfl⟩ := hC _ w8 hb8
      refine ⟨_, rfl, ⟨j8, rfl⟩, ?_⟩
      simp only [Act.put, List.setIfInBounds_toArray, List.set_cons_zero, List.set_cons_succ]
      repeat (first | (refine Mix.lex_step rfl ?_; intro K hK; go_big_quiet_step (fail); refine Mix.lex_on hK ?_; clear hK K) | (refine Mix.lex_skip rfl ?_; simp only [Act.put, List.setIfInBounds_toArray, List.set_cons_zero, List.set_cons_succ]))
      refine Mix.lex_nil ?_
      have HB9 := HBW j8
      have HR9 := HWR j8
      have x0 : (W j8).cell? ⟨w.heap.size, 0, none⟩ = some (.int .i64 x.1) := cell_of_blk HB9.out.xb rfl
      have x1 : (W j8).cell? ⟨w.heap.size, 1, none⟩ = some (.int .i64 x.2) := cell_of_blk HB9.out.xb rfl
      clear HBW d0 d1 HWR hW hC HR4' HR5
      generalize W j8 = w9 at *
      go_wp2_with fail
      by_cases ho : okp x
      · by_cases hl : (add l x).length ≤ 4096
        · have HT : Hid (addT l x = (add l x, 0)) := by unfold Hid addT; rw [if_pos ⟨HRT.out, ho⟩, if_pos hl]
          refine (hA A n c l x w9 HR9.out HX.out.1 HX.out.2.1 HX.out.2.2 (by omega)).mono ?_
          rw [HT.out]
          rintro e10 w10 ⟨v10, rfl, A10, n10, c10, rfl, hr10, -, hnc10, -, hb10⟩
          obtain rfl := hr10.len
          have HR10 := Lib.hid hr10
          have HB10 := Lib.hid (HB9.out.below hb10)
          have HRA := Lib.hid ((HR9.out.below hb10).more hb10.size)
          have y0 : w10.cell? ⟨w.heap.size, 0, none⟩ = some (.int .i64 x.1) := cell_of_blk HB10.out.xb rfl
          have y1 : w10.cell? ⟨w.heap.size, 1, none⟩ = some (.int .i64 x.2) := cell_of_blk HB10.out.xb rfl
          clear hr10 hb10 x0 x1 HR9 HB9
          go_wp2_with fail
          refine (refadd_any A n c l x w10 HRA.out (by omega)).mono ?_
          rintro e11 w11 ⟨v11, rfl, A11, n11, c11, rfl, hr11, -, hnc11, -, hb11⟩
          obtain rfl := hr11.len
          have HR11 := Lib.hid hr11
          have HR10' := Lib.hid (HR10.out.below hb11)
          have HS11 := Lib.hid hb11.size
          have HB11 := Lib.hid (HB10.out.below hb11)
          have z0 : w11.cell? ⟨w.heap.size, 0, none⟩ = some (.int .i64 x.1) := cell_of_blk HB11.out.xb rfl
          have z1 : w11.cell? ⟨w.heap.size, 1, none⟩ = some (.int .i64 x.2) := cell_of_blk HB11.out.xb rfl
          clear hr11 hb11 y0 y1 HR10 HB10 HRA
          have HF : Hid (rest x false l = add l x) := rest_false HRT.out.asc
          rw [HF.out] at HR11 HRL ⊢
          have HLA := HRL.out
          have HLL := HL.out
          have HBA : Hid (Below w.heap.size w (w11.alloc (.cells #[.int .i64 x.1, .int .i64 x.2] 24))) := HB11.out.bel.alloc HB11.out.bel.size _
          have HRX : Hid (RRow rvS (w11.alloc (.cells #[.int .i64 x.1, .int .i64 x.2] 24)) (w11.heap.size + 1) (some ⟨w11.heap.size, 0, none⟩) 1 [x]) := RRow.of_blk (S := rvS) (l := [x]) (heap_alloc_new w11 _) (by omega) rfl
          have hbn : Below w11.heap.size w11 (w11.alloc (.cells #[.int .i64 x.1, .int .i64 x.2] 24)) := (Below.refl _ _).alloc (Nat.le_refl _) _
          have HR11' := Lib.hid (HR11.out.below hbn)
          have HR12 := Lib.hid ((HR10'.out.more HS11.out).below hbn)
          have HRO : Hid (decide (Rt [x]) = decide (okp x)) := decide_eq_decide.2 (rt_one x)
          clear hbn HR11
          go_wp2_with fail
          refine (refright_any _ 1 1 _ [x] _ HRX.out (by omega)).mono ?_
          rw [HRO.out, decide_eq_true ho]
          rintro e12 w12 ⟨rfl, q12, rfl⟩
          have HB12 : Hid (Below w.heap.size w ((w11.alloc (.cells #[.int .i64 x.1, .int .i64 x.2] 24)).drewN q12)) := ⟨HBA.out.os, HBA.out.tape, HBA.out.output, HBA.out.size, HBA.out.block⟩
          have HR13 := Lib.hid (HR11'.out.drewN q12)
          have HR14 := Lib.hid (HR12.out.drewN q12)
          clear HR11' HR12 HRX HBA z0 z1 HB11
          generalize (w11.alloc (.cells #[.int .i64 x.1, .int .i64 x.2] 24)).drewN q12 = w13 at *
          have hl4 : decide ((4096 : Int) < ((add l x).length : Int)) = false := decide_eq_false (by omega)
          have hl5 : decide (4096 < (add l x).length) = false := decide_eq_false (by omega)
          have hl6 : ¬ (4096 < (add l x).length) := by omega
          go_wp2_with fail
          refine (refsame_any A10 A11 _ c10 c11 _ _ (add l x) w13 (by omega) HR14.out HR13.out).mono ?_
          rintro e14 w14 ⟨rfl, q14, rfl⟩
          go_wp2
          go_ret
          exact ⟨rfl, ⟨HB12.out.os, HB12.out.tape, HB12.out.output, HB12.out.size, HB12.out.block⟩⟩
        · have HT : Hid (addT l x = ([], 3)) := by unfold Hid addT; rw [if_pos ⟨HRT.out, ho⟩, if_neg hl]
          refine (hA A n c l x w9 HR9.out HX.out.1 HX.out.2.1 HX.out.2.2 (by omega)).mono ?_
          rw [HT.out]
          rintro e10 w10 ⟨v10, rfl, A10, n10, c10, rfl, hr10, -, hnc10, -, hb10⟩
          obtain rfl := hr10.len
          have HR10 := Lib.hid hr10
          have HB10 := Lib.hid (HB9.out.below hb10)
          have HRA := Lib.hid ((HR9.out.below hb10).more hb10.size)
          have y0 : w10.cell? ⟨w.heap.size, 0, none⟩ = some (.int .i64 x.1) := cell_of_blk HB10.out.xb rfl
          have y1 : w10.cell? ⟨w.heap.size, 1, none⟩ = some (.int .i64 x.2) := cell_of_blk HB10.out.xb rfl
          clear hr10 hb10 x0 x1 HR9 HB9
          go_wp2_with fail
          refine (refadd_any A n c l x w10 HRA.out (by omega)).mono ?_
          rintro e11 w11 ⟨v11, rfl, A11, n11, c11, rfl, hr11, -, hnc11, -, hb11⟩
          obtain rfl := hr11.len
          have HR11 := Lib.hid hr11
          have HR10' := Lib.hid (HR10.out.below hb11)
          have HS11 := Lib.hid hb11.size
          have HB11 := Lib.hid (HB10.out.below hb11)
          have z0 : w11.cell? ⟨w.heap.size, 0, none⟩ = some (.int .i64 x.1) := cell_of_blk HB11.out.xb rfl
          have z1 : w11.cell? ⟨w.heap.size, 1, none⟩ = some (.int .i64 x.2) := cell_of_blk HB11.out.xb rfl
          clear hr11 hb11 y0 y1 HR10 HB10 HRA
          have HF : Hid (rest x false l = add l x) := rest_false HRT.out.asc
          rw [HF.out] at HR11 HRL ⊢
          have HLA := HRL.out
          have HLL := HL.out
          have HBA : Hid (Below w.heap.size w (w11.alloc (.cells #[.int .i64 x.1, .int .i64 x.2] 24))) := HB11.out.bel.alloc HB11.out.bel.size _
          have HRX : Hid (RRow rvS (w11.alloc (.cells #[.int .i64 x.1, .int .i64 x.2] 24)) (w11.heap.size + 1) (some ⟨w11.heap.size, 0, none⟩) 1 [x]) := RRow.of_blk (S := rvS) (l := [x]) (heap_alloc_new w11 _) (by omega) rfl
          have hbn : Below w11.heap.size w11 (w11.alloc (.cells #[.int .i64 x.1, .int .i64 x.2] 24)) := (Below.refl _ _).alloc (Nat.le_refl _) _
          have HR11' := Lib.hid (HR11.out.below hbn)
          have HR12 := Lib.hid ((HR10'.out.more HS11.out).below hbn)
          have HRO : Hid (decide (Rt [x]) = decide (okp x)) := decide_eq_decide.2 (rt_one x)
          clear hbn HR11
          go_wp2_with fail
          refine (refright_any _ 1 1 _ [x] _ HRX.out (by omega)).mono ?_
          rw [HRO.out, decide_eq_true ho]
          rintro e12 w12 ⟨rfl, q12, rfl⟩
          have HB12 : Hid (Below w.heap.size w ((w11.alloc (.cells #[.int .i64 x.1, .int .i64 x.2] 24)).drewN q12)) := ⟨HBA.out.os, HBA.out.tape, HBA.out.output, HBA.out.size, HBA.out.block⟩
          have HR13 := Lib.hid (HR11'.out.drewN q12)
          clear HR11' HR12 HRX HBA z0 z1 HB11
          generalize (w11.alloc (.cells #[.int .i64 x.1, .int .i64 x.2] 24)).drewN q12 = w13 at *
          have hl4 : decide ((4096 : Int) < ((add l x).length : Int)) = true := decide_eq_true (by omega)
          go_wp2
          go_ret
          exact ⟨rfl, HB12.out⟩
      · have HT := Lib.hid (addT_no (l := l) (fun h => ho h.2))
        refine (hA A n c l x w9 HR9.out HX.out.1 HX.out.2.1 HX.out.2.2 (by omega)).mono ?_
        rw [HT.out]
        rintro e10 w10 ⟨v10, rfl, A10, n10, c10, rfl, hr10, -, hnc10, -, hb10⟩
        obtain rfl := hr10.len
        have HR10 := Lib.hid hr10
        have HB10 := Lib.hid (HB9.out.below hb10)
        have HRA := Lib.hid ((HR9.out.below hb10).more hb10.size)
        have y0 : w10.cell? ⟨w.heap.size, 0, none⟩ = some (.int .i64 x.1) := cell_of_blk HB10.out.xb rfl
        have y1 : w10.cell? ⟨w.heap.size, 1, none⟩ = some (.int .i64 x.2) := cell_of_blk HB10.out.xb rfl
        clear hr10 hb10 x0 x1 HR9 HB9
        go_wp2_with fail
        refine (refadd_any A n c l x w10 HRA.out (by omega)).mono ?_
        rintro e11 w11 ⟨v11, rfl, A11, n11, c11, rfl, hr11, -, hnc11, -, hb11⟩
        obtain rfl := hr11.len
        have HR11 := Lib.hid hr11
        have HR10' := Lib.hid (HR10.out.below hb11)
        have HS11 := Lib.hid hb11.size
        have HB11 := Lib.hid (HB10.out.below hb11)
        have z0 : w11.cell? ⟨w.heap.size, 0, none⟩ = some (.int .i64 x.1) := cell_of_blk HB11.out.xb rfl
        have z1 : w11.cell? ⟨w.heap.size, 1, none⟩ = some (.int .i64 x.2) := cell_of_blk HB11.out.xb rfl
        clear hr11 hb11 y0 y1 HR10 HB10 HRA
        have HF : Hid (rest x false l = add l x) := rest_false HRT.out.asc
        rw [HF.out] at HR11 HRL ⊢
        have HLA := HRL.out
        have HLL := HL.out
        have HBA : Hid (Below w.heap.size w (w11.alloc (.cells #[.int .i64 x.1, .int .i64 x.2] 24))) := HB11.out.bel.alloc HB11.out.bel.size _
        have HRX : Hid (RRow rvS (w11.alloc (.cells #[.int .i64 x.1, .int .i64 x.2] 24)) (w11.heap.size + 1) (some ⟨w11.heap.size, 0, none⟩) 1 [x]) := RRow.of_blk (S := rvS) (l := [x]) (heap_alloc_new w11 _) (by omega) rfl
        have hbn : Below w11.heap.size w11 (w11.alloc (.cells #[.int .i64 x.1, .int .i64 x.2] 24)) := (Below.refl _ _).alloc (Nat.le_refl _) _
        have HR11' := Lib.hid (HR11.out.below hbn)
        have HR12 := Lib.hid ((HR10'.out.more HS11.out).below hbn)
        have HRO : Hid (decide (Rt [x]) = decide (okp x)) := decide_eq_decide.2 (rt_one x)
        clear hbn HR11
        go_wp2_with fail
        refine (refright_any _ 1 1 _ [x] _ HRX.out (by omega)).mono ?_
        rw [HRO.out, decide_eq_false ho]
        rintro e12 w12 ⟨rfl, q12, rfl⟩
        have HB12 : Hid (Below w.heap.size w ((w11.alloc (.cells #[.int .i64 x.1, .int .i64 x.2] 24)).drewN q12)) := ⟨HBA.out.os, HBA.out.tape, HBA.out.output, HBA.out.size, HBA.out.block⟩
        have HR13 := Lib.hid (HR11'.out.drewN q12)
        clear HR11' HR12 HRX HBA z0 z1 HB11
        generalize (w11.alloc (.cells #[.int .i64 x.1, .int .i64 x.2] 24)).drewN q12 = w13 at *
        go_wp2
        go_ret
        exact ⟨rfl, HB12.out⟩
end Go.Proofs.Ytfmmpmpafgbidaa.Rv
