/- Lemmas that the proof stands on, in build order: PdG. -/
import Derived.Test.YtdhlbcbgbmgcjaaJ41dc9098
import Derived.Test.YtdhlbcbgbmgcjaaJ774df6f
/- Layer 17 (path), the landed program: Weight, as a contract; all that the laws ask. -/
namespace Go.Proofs.Ytdhlbcbgbmgcjaa.Pt
open Go.RowKit Rec Ints Ge Gf Pa Gd

theorem build_one (u : Int) (W : World) : (Instr.buildSlice 27 1 #[(0, .int .i64 u)]).run Try.prog W = .ok (.slice (some ⟨W.heap.size, 0, none⟩) 1 1) (W.alloc (.cells #[.int .i64 u] 3)) := by kernel_rfl
set_option maxHeartbeats 3200000 in
set_option maxRecDepth 100000 in
theorem ways_any (N : Nt) (A A' : Option Addr) (n c m c' : Nat) (W : Option Addr) (k d : Nat) (way : List Int) (w : World) (h : NAt w w.heap.size N A n c A' m c') (hc : check N = 0) (hr : RRow intS w w.heap.size W k way) (hWd : W = none → d = 0) (hkd : k ≤ d) (hdm : d ≤ maxLen) (hk : k ≤ 8192) :
    Calls Try.prog 11 #[.agg #[.int .i64 N.ver, .slice A n c, .slice A' m c'], .slice W k d] w fun e w' => e = .returned (.tuple #[.int .i64 (wyT N way).1, .bool (wyT N way).2]) ∧ Below w.heap.size w w' := by
  have HB := Lib.hid (Bx.start h)
  have hv := valid_of hc
  have HV := Lib.hid hv
  have HC := Lib.hid hc
  have hls : N.st.length = n := h.st.len
  have hll : N.lk.length = m := h.lk.len
  have HLS := Lib.hid hls
  have hn9 := hv.ns
  have hm9 := hv.nl
  rw [hls] at hn9
  rw [hll] at hm9
  have HR := Lib.hid hr
  have HKL := Lib.hid hr.len
  have hdm' : d ≤ 9223372036854775807 := hdm
  clear h hc hv hls hll hr hdm
  go_enter Try.func11, Try.ntmps11
  go_upto_region 1 with fail
  generalize w.alloc (.cells #[.int .i64 N.ver, .slice A n c, .slice A' m c'] 25) = w1 at *
  by_cases hk0 : k = 0
  · subst hk0
    have HF : Hid (wyT N way = (0, false)) := wy_none (.inl (List.eq_nil_of_length_eq_zero HKL.out))
    obtain ⟨ι, hne, W', i0, h0, hW, hC⟩ := fam_of w1
    have HWB : ∀ k, Hid (Below w.heap.size w (W' k)) := fun k => HB.out.bel.trans ((hW k).mono HB.out.bel.size)
    clear hW hC
    refine Mix.wp_region_lex (fun w' => ∃ i, w' = W' i) (by kernel_rfl) (by kernel_rfl) ⟨i0, h0⟩ ?_
    rw [h0]
    clear h0
    repeat (first | (refine Mix.lex_step rfl ?_; intro K hK; go_big_quiet_step (fail); refine Mix.lex_on hK ?_; clear hK K) | (refine Mix.lex_skip rfl ?_; simp only [Act.put, List.setIfInBounds_toArray, List.set_cons_zero, List.set_cons_succ]))
    refine Mix.lex_nil ?_
    have HB9 := HWB i0
    generalize W' i0 = w9 at HB9 ⊢
    go_wp2
    go_ret2
    exact ⟨by rw [HF.out]; rfl, HB9.out⟩
  · have e0 : ((k : Int) == 0) = false := beq_eq_false_iff_ne.2 (by omega)
    obtain ⟨b, o, x, rfl, hbl, hx, cx⟩ := int_at HR.out (show 0 < k by omega)
    have HX := Lib.hid hx
    have HG0 : Hid (way.getD 0 0 = x) := by unfold Hid; rw [List.getD_eq_getElem?_getD, hx]; rfl
    have a1 : (0 : Int) < (k : Int) := by omega
    obtain ⟨ι, hne, W', i0, h0, hW, hC⟩ := fam_of w1
    have HWB : ∀ k, Hid (Bx w N A n c A' m c' (W' k)) := fun k => HB.out.below (hW k)
    have z0 : ∀ k, (W' k).cell? ⟨w.heap.size, 0, none⟩ = some (.int .i64 N.ver) := fun k => cell_of_blk (HWB k).out.blk rfl
    have z1 : ∀ k, (W' k).cell? ⟨w.heap.size, 1, none⟩ = some (.slice A n c) := fun k => cell_of_blk (HWB k).out.blk rfl
    have z2 : ∀ k, (W' k).cell? ⟨w.heap.size, 2, none⟩ = some (.slice A' m c') := fun k => cell_of_blk (HWB k).out.blk rfl
    have cw : ∀ k, (W' k).cell? ⟨b, o, none⟩ = some (.int .i64 x) := fun k => ((HWB k).out.bel.cell hbl).trans cx
    clear hW hx cx
    refine Mix.wp_region_lex (fun w' => ∃ i, w' = W' i) (by kernel_rfl) (by kernel_rfl) ⟨i0, h0⟩ ?_
    rw [h0]
    clear h0
    repeat (first | (refine Mix.lex_step rfl ?_; intro K hK; go_big_quiet_step (fail); refine Mix.lex_on hK ?_; clear hK K) | (refine Mix.lex_skip rfl ?_; simp only [Act.put, List.setIfInBounds_toArray, List.set_cons_zero, List.set_cons_succ]))
    have hb7 := (Below.refl (W' i0).heap.size (W' i0)).alloc (Nat.le_refl _) (.cells #[.int .i64 x] 3)
    have hr7 : RRow intS ((W' i0).alloc (.cells #[.int .i64 x] 3)) ((W' i0).alloc (.cells #[.int .i64 x] 3)).heap.size (some ⟨(W' i0).heap.size, 0, none⟩) 1 [x] := RRow.of_blk (S := intS) (l := [x]) (heap_alloc_new (W' i0) _) (by simp) rfl
    obtain ⟨j1, hj1⟩ := hC i0 _ hb7
    refine Mix.lex_build (ps := #[(0, .int .i64 x)]) rfl (by simp [Act.eval]) (build_one x (W' i0)) rfl ⟨j1, hj1⟩ ?_
    rw [hj1] at hr7 ⊢
    obtain ⟨q, hq⟩ : ∃ q, (W' i0).heap.size = q := ⟨_, rfl⟩
    rw [hq] at hr7
    try rw [hq]
    clear hb7 hj1 hq
    simp only [Act.put, List.setIfInBounds_toArray, List.set_cons_zero, List.set_cons_succ]
    repeat (first | (refine Mix.lex_step rfl ?_; intro K hK; go_big_quiet_step (fail); refine Mix.lex_on hK ?_; clear hK K) | (refine Mix.lex_skip rfl ?_; simp only [Act.put, List.setIfInBounds_toArray, List.set_cons_zero, List.set_cons_succ]))
    refine Mix.lex_call (check_stops N A A' n c m c' _ 1 1 [x] (W' j1) ((HWB j1).out.at_.more (Nat.le_of_lt (HWB j1).out.lt)) (by omega) (by omega) hr7 (by omega)) rfl rfl rfl (fun _ => rfl) ?_
    rintro e3 w3 ⟨rfl, hb3⟩
    obtain ⟨j3, rfl⟩ := hC _ w3 hb3
    refine ⟨_, rfl, ⟨j3, rfl⟩, ?_⟩
    rw [chk_one]
    clear hr7 hb3
    simp only [Act.put, List.setIfInBounds_toArray, List.set_cons_zero, List.set_cons_succ]
    by_cases hbad : x < 0 ∨ (n : Int) ≤ x
    · have e1 : fromE N x = 2 := by unfold fromE; rw [if_neg (show ¬ (check N ≠ 0) from fun h => h HC.out), if_pos (by rw [HLS.out]; exact hbad)]
      have HF : Hid (wyT N way = (0, false)) := wy_none (.inr (by rw [HG0.out, HLS.out]; exact hbad))
      rw [e1]
      clear e1 hbad
      repeat (first | (refine Mix.lex_step rfl ?_; intro K hK; go_big_quiet_step (fail); refine Mix.lex_on hK ?_; clear hK K) | (refine Mix.lex_skip rfl ?_; simp only [Act.put, List.setIfInBounds_toArray, List.set_cons_zero, List.set_cons_succ]))
      refine Mix.lex_nil ?_
      have HB9 := HWB j3
      clear z0 z1 z2 cw HWB hC
      generalize W' j3 = w9 at HB9 ⊢
      go_wp2
      go_ret2
      exact ⟨by rw [HF.out]; rfl, HB9.out.bel⟩
    · have e1 : fromE N x = 0 := by unfold fromE; rw [if_neg (show ¬ (check N ≠ 0) from fun h => h HC.out), if_neg (by rw [HLS.out]; exact hbad)]
      have HH0 : Hid (0 ≤ way.getD 0 0 ∧ way.getD 0 0 < (N.st.length : Int)) := by unfold Hid; rw [HG0.out, HLS.out]; omega
      rw [e1]
      clear e1 hbad
      repeat (first | (refine Mix.lex_step rfl ?_; intro K hK; go_big_quiet_step (fail); refine Mix.lex_on hK ?_; clear hK K) | (refine Mix.lex_skip rfl ?_; simp only [Act.put, List.setIfInBounds_toArray, List.set_cons_zero, List.set_cons_succ]))
      refine Mix.lex_nil ?_
      have HB9 := HWB j3
      clear z0 z1 z2 cw HWB hC
      generalize W' j3 = w9 at HB9 ⊢
      go_upto_region 4 with fail
      have HNB : Hid (¬ (way = [] ∨ way.getD 0 0 < 0 ∨ (N.st.length : Int) ≤ way.getD 0 0)) := by
        have h1 := HH0.out
        rintro (h | h | h)
        · have h2 := HKL.out; rw [h] at h2; simp at h2; omega
        · omega
        · omega
      have b1 : (0 : Int) ≤ 1 := by omega
      have b2 : (1 : Int) ≤ (k : Int) := by omega
      have b3 : (k : Int) ≤ (d : Int) := by omega
      by_cases hd1 : d = 1
      · subst hd1
        obtain rfl : k = 1 := by omega
        have HF : Hid (wyT N way = (0, true)) := by
          unfold Hid
          rw [wy_yes HNB.out (by rw [HKL.out]; exact fun i hi => absurd hi (Nat.not_lt_zero _)), HKL.out]
          rfl
        go_wp2
        refine wp_loop_rounds 1 ?_
        rw [rounds_succ]
        go_wp2
        go_ret2
        exact ⟨by rw [HF.out]; rfl, HB9.out.bel⟩
      · go_wp2
        obtain ⟨k1, hk1⟩ : ∃ k1, k = k1 + 1 := ⟨k - 1, by omega⟩
        go_loopw [6, 7, 8, 9, 10, 26] (fun s6 _ _ _ _ i wr => ∃ j : Nat, i = .int .i64 (j : Int) ∧ s6 = .int .i64 (sm N.lk way j) ∧ j ≤ k1 ∧ Hid (Steps N.lk way j) ∧ Hid (Bx w N A n c A' m c' wr)) (fun _ _ _ _ _ i _ => k1 - (intOf i).toNat)
        case atStart => exact ⟨0, rfl, rfl, Nat.zero_le _, fun i hi => absurd hi (Nat.not_lt_zero _), HB9⟩
        case round =>
          clear HB9
          obtain ⟨j, rfl, rfl, hj, HST, HB⟩ := hrel
          by_cases hlt : j < k1
          · obtain ⟨bb, o', y, e', -, hy, cy⟩ := int_at (HR.out.below HB.out.bel) (show j < k by omega)
            injection e' with e'
            injection e' with e1 e2
            subst e1 e2
            obtain ⟨bb, o', z, e', -, hz, cz⟩ := int_at (HR.out.below HB.out.bel) (show j + 1 < k by omega)
            injection e' with e'
            injection e' with e1 e2
            subst e1 e2
            have cz' : wr.cell? ⟨b, o + 1 + j, none⟩ = some (.int .i64 z) := by rw [Nat.add_assoc, Nat.add_comm 1 j]; exact cz
            have HY : Hid (way.getD j 0 = y) := by unfold Hid; rw [List.getD_eq_getElem?_getD, hy]; rfl
            have HZ : Hid (way.getD (j + 1) 0 = z) := by unfold Hid; rw [List.getD_eq_getElem?_getD, hz]; rfl
            have a3 : (0 : Int) ≤ (j : Int) := by omega
            have a4 : (j : Int) < (k : Int) := by omega
            have a5 : (j : Int) < ((k1 : Nat) : Int) := by omega
            have qj : IntKind.i64.wrap ((j : Int) + 1) = (j : Int) + 1 := IntWalk.i64_in _ ⟨by omega, by omega⟩
            clear hy hz cz
            go_upto_region 7 with fail
            obtain ⟨ι, hne, W', i0, h0, hW, hC⟩ := fam_of wr
            have HWB : ∀ k, Hid (Bx w N A n c A' m c' (W' k)) := fun k => HB.out.below (hW k)
            have z0 : ∀ k, (W' k).cell? ⟨w.heap.size, 0, none⟩ = some (.int .i64 N.ver) := fun k => cell_of_blk (HWB k).out.blk rfl
            have z1 : ∀ k, (W' k).cell? ⟨w.heap.size, 1, none⟩ = some (.slice A n c) := fun k => cell_of_blk (HWB k).out.blk rfl
            have z2 : ∀ k, (W' k).cell? ⟨w.heap.size, 2, none⟩ = some (.slice A' m c') := fun k => cell_of_blk (HWB k).out.blk rfl
            have cw : ∀ k, (W' k).cell? ⟨b, o + j, none⟩ = some (.int .i64 y) := fun k => by
              have h1 := (hW k).cell (p := ⟨b, o + j, none⟩) (Nat.lt_of_lt_of_le hbl HB.out.bel.size)
              rw [h1]
              exact cy
            clear hW cy cz'
            refine Mix.wp_region_lex (fun w' => ∃ i, w' = W' i) (by kernel_rfl) (by kernel_rfl) ⟨i0, h0⟩ ?_
            rw [h0]
            clear h0
            repeat (first | (refine Mix.lex_step rfl ?_; intro K hK; go_big_quiet_step (fail); refine Mix.lex_on hK ?_; clear hK K) | (refine Mix.lex_skip rfl ?_; simp only [Act.put, List.setIfInBounds_toArray, List.set_cons_zero, List.set_cons_succ]))
            obtain ⟨v, hv⟩ : ∃ v, wt N.lk y z = v := ⟨_, rfl⟩
            have HWV : Hid (wt N.lk (way.getD j 0) (way.getD (j + 1) 0) = v) := by unfold Hid; rw [HY.out, HZ.out]; exact hv
            obtain ⟨bv, hbv⟩ : ∃ bv, decide (v ≠ 0) = bv := ⟨_, rfl⟩
            have HBV := Lib.hid hbv
            have hwc := weight_any N A A' n c m c' y z (W' i0) ((HWB i0).out.at_.more (Nat.le_of_lt (HWB i0).out.lt)) HC.out
            rw [hv, hbv] at hwc
            clear hv hbv
            refine Mix.lex_call hwc rfl rfl rfl (fun _ => rfl) ?_
            rintro e3 w3 ⟨rfl, hb3⟩
            obtain ⟨j3, rfl⟩ := hC _ w3 hb3
            refine ⟨_, rfl, ⟨j3, rfl⟩, ?_⟩
            clear hb3
            simp only [Act.put, List.setIfInBounds_toArray, List.set_cons_zero, List.set_cons_succ]
            repeat (first | (refine Mix.lex_step rfl ?_; intro K hK; go_big_quiet_step (fail); refine Mix.lex_on hK ?_; clear hK K) | (refine Mix.lex_skip rfl ?_; simp only [Act.put, List.setIfInBounds_toArray, List.set_cons_zero, List.set_cons_succ]))
            refine Mix.lex_nil ?_
            have HB9 := HWB j3
            clear z0 z1 z2 cw HWB hC HB
            generalize W' j3 = w9 at HB9 ⊢
            cases bv with
            | false =>
              have hv0 : v = 0 := by
                have h1 := of_decide_eq_false HBV.out
                omega
              have HF : Hid (wyT N way = (0, false)) := wy_no (fun h => h j (by rw [HKL.out]; omega) (by rw [HWV.out]; exact hv0))
              clear hv0
              go_wp2
              go_ret2
              exact ⟨by rw [HF.out]; rfl, HB9.out.bel⟩
            | true =>
              have hv0 : v ≠ 0 := of_decide_eq_true HBV.out
              have HSN : Hid (Steps N.lk way (j + 1)) := steps_succ HST.out (by rw [HWV.out]; exact hv0)
              have hsm := (steps_way HV.out HH0.out HST.out).2
              have hvv : 1 ≤ v ∧ v < 1048576 := by
                have h1 := wt_in HV.out (a := way.getD j 0) (b := way.getD (j + 1) 0) (by rw [HWV.out]; exact hv0)
                rw [HWV.out] at h1
                omega
              have HSS : Hid (sm N.lk way (j + 1) = sm N.lk way j + v) := by unfold Hid; rw [← HWV.out]; rfl
              obtain ⟨sj, hsj⟩ : ∃ sj, sm N.lk way j = sj := ⟨_, rfl⟩
              rw [hsj] at hsm HSS
              rw [hsj]
              have q2 : IntKind.i64.wrap (sj + v) = sj + v := IntWalk.i64_in _ ⟨by omega, by omega⟩
              clear hsj hsm hvv hv0
              go_wp2
              go_roundw
              case rel => exact ⟨j + 1, by go_num, by rw [HSS.out], by omega, HSN, HB9⟩
              case measure => simp [intOf]; omega
          · obtain rfl : j = k1 := by omega
            have HF : Hid (wyT N way = (sm N.lk way j, true)) := by
              have h1 : way.length - 1 = j := by have := HKL.out; omega
              unfold Hid
              rw [wy_yes HNB.out (by rw [h1]; exact HST.out), h1]
            have a6 : ¬ (j : Int) < ((k - 1 : Nat) : Int) := by omega
            obtain ⟨sj, hsj⟩ : ∃ sj, sm N.lk way j = sj := ⟨_, rfl⟩
            rw [hsj] at HF
            rw [hsj]
            clear hsj
            go_wp2
            go_ret2
            exact ⟨by rw [HF.out]; rfl, HB.out.bel⟩
theorem oks : Oks where
  from_ N A A' n c m c' s w h _ hn hm _ := from_any N A A' n c m c' s w h hn hm
  way := way_any
  weight N A A' n c m c' W k d way w h _ hc hr hW hk hd hk9 _ := ways_any N A A' n c m c' W k d way w h hc hr hW hk hd hk9
end Go.Proofs.Ytdhlbcbgbmgcjaa.Pt
