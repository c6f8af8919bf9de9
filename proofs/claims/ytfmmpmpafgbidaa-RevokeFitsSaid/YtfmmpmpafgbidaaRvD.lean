/- Layer 12 (revoke), the landed program: Right, place, Has, as contracts. -/
import Derived.Test.YtfmmpmpafgbidaaRvC
import Derived.Test.YtfmmpmpafgbidaaMix
import Derived.Test.YtfmmpmpafgbidaaFam
namespace Go.Proofs.Ytfmmpmpafgbidaa.Rv
open Go.RowKit Rec

set_option maxHeartbeats 3200000 in
set_option maxRecDepth 100000 in
theorem right_any (A : Option Addr) (n c : Nat) (l : List P) (w : World) (h : RRow rvS w w.heap.size A n l) (hn : n ≤ 100000) :
    Calls Try.prog 8 #[.slice A n c] w fun e w' => e = .returned (.bool (decide (Rt l))) ∧ Below w.heap.size w w' := by
  have H := Lib.hid h
  have HL := Lib.hid h.len
  clear h
  by_cases hbig : 4096 < n
  · have e1 : decide ((4096 : Int) < (n : Int)) = true := decide_eq_true (by omega)
    have hk : decide (Rt l) = false := decide_eq_false fun h => by have := h.len; have := HL.out; omega
    rw [hk]
    clear hk
    go_enter Try.func8, Try.ntmps8
    go_wp2
    go_ret
    exact ⟨rfl, Below.refl _ _⟩
  have e1 : decide ((4096 : Int) < (n : Int)) = false := decide_eq_false (by omega)
  go_enter Try.func8, Try.ntmps8
  go_wp2
  clear e1
  go_loopw [10] (fun i wr => ∃ k : Nat, k ≤ n ∧ i = .int .i64 (k : Int) ∧ Hid (okf (l.take k)) ∧ Hid (Below w.heap.size w wr)) (fun i _ => n - (intOf i).toNat)
  case atStart => exact ⟨0, Nat.zero_le _, rfl, okf_nil, Below.refl _ _⟩
  case round =>
    obtain ⟨k, hk, rfl, HO, HB⟩ := hrel
    by_cases hlt : k < n
    · obtain ⟨b, o, p, rfl, hbl, hp, c0, c1⟩ := rv_at (H.out.below HB.out) hlt
      have HP := Lib.hid hp
      have BAD : Hid (¬ okp p → decide (Rt l) = false) := fun hx => decide_eq_false fun hr => okf_bad HP.out (.inl hx) ((rt_okf l).1 hr).1
      obtain ⟨b0, b1⟩ := boxed wr p
      have hkw : IntKind.i64.wrap ((k : Int) + 1) = (k : Int) + 1 := IntWalk.i64_in _ ⟨by omega, by omega⟩
      have HBX := Lib.hid (HB.out.alloc HB.out.size (.cells #[.int .i64 p.1, .int .i64 p.2] 24))
      have HSX : Hid (wr.heap.size < (wr.alloc (.cells #[.int .i64 p.1, .int .i64 p.2] 24)).heap.size) := by unfold Hid; simp
      have B0 := Lib.hid b0
      have B1 := Lib.hid b1
      clear hp b0 b1
      go_wp2_with fail
      generalize wr.alloc (.cells #[.int .i64 p.1, .int .i64 p.2] 24) = w2 at HBX HSX B0 B1 ⊢
      obtain ⟨ι, hne, W, i0, h0, hW, hC⟩ := fam_of w2
      have HWW : ∀ i, Hid (Below w.heap.size w (W i)) := fun i => HBX.out.trans ((hW i).mono HBX.out.size)
      have d0 : ∀ i, (W i).cell? ⟨wr.heap.size, 0, none⟩ = some (.int .i64 p.1) := fun i => ((hW i).cell (p := ⟨wr.heap.size, 0, none⟩) HSX.out).trans B0.out
      have d1 : ∀ i, (W i).cell? ⟨wr.heap.size, 0 + 1, none⟩ = some (.int .i64 p.2) := fun i => ((hW i).cell (p := ⟨wr.heap.size, 0 + 1, none⟩) HSX.out).trans B1.out
      clear c0 c1
      cases hm : decide (okp p) with
      | false =>
        have HF := Lib.hid (BAD.out (of_decide_eq_false hm))
        refine Mix.wp_region_lex (fun w' => ∃ i, w' = W i) (by kernel_rfl) (by kernel_rfl) ⟨i0, h0⟩ ?_
        rw [h0]
        clear h0
        repeat (first | (refine Mix.lex_step rfl ?_; intro K hK; go_big_quiet_step (fail); refine Mix.lex_on hK ?_; clear hK K) | (refine Mix.lex_skip rfl ?_; simp only [Act.put, List.setIfInBounds_toArray, List.set_cons_zero, List.set_cons_succ]))
        refine Mix.lex_call (may_any p (W i0)) rfl rfl rfl (fun _ => rfl) ?_
        rw [hm]
        rintro e3 w3 ⟨rfl, hb3⟩
        obtain ⟨j3, rfl⟩ := hC _ w3 hb3
        refine ⟨_, rfl, ⟨j3, rfl⟩, ?_⟩
        simp only [Act.put, List.setIfInBounds_toArray, List.set_cons_zero, List.set_cons_succ]
        repeat (first | (refine Mix.lex_step rfl ?_; intro K hK; go_big_quiet_step (fail); refine Mix.lex_on hK ?_; clear hK K) | (refine Mix.lex_skip rfl ?_; simp only [Act.put, List.setIfInBounds_toArray, List.set_cons_zero, List.set_cons_succ]))
        refine Mix.lex_nil ?_
        have HB9 := HWW j3
        generalize W j3 = w9 at HB9 ⊢
        clear HWW hW hC d0 d1
        go_wp2
        go_ret
        exact ⟨by rw [HF.out]; rfl, HB9.out⟩
      | true =>
        have HK := Lib.hid (of_decide_eq_true hm)
        by_cases q3 : k = 0
        · subst q3
          have hd7 : decide ((0 : Int) < 0) = false := by decide
          have HN := Lib.hid (okf_next HP.out HO.out HK.out (fun h => absurd h (by omega)))
          refine Mix.wp_region_lex (fun w' => ∃ i, w' = W i) (by kernel_rfl) (by kernel_rfl) ⟨i0, h0⟩ ?_
          rw [h0]
          clear h0
          repeat (first | (refine Mix.lex_step rfl ?_; intro K hK; go_big_quiet_step (fail); refine Mix.lex_on hK ?_; clear hK K) | (refine Mix.lex_skip rfl ?_; simp only [Act.put, List.setIfInBounds_toArray, List.set_cons_zero, List.set_cons_succ]))
          refine Mix.lex_call (may_any p (W i0)) rfl rfl rfl (fun _ => rfl) ?_
          rw [hm]
          rintro e3 w3 ⟨rfl, hb3⟩
          obtain ⟨j3, rfl⟩ := hC _ w3 hb3
          refine ⟨_, rfl, ⟨j3, rfl⟩, ?_⟩
          simp only [Act.put, List.setIfInBounds_toArray, List.set_cons_zero, List.set_cons_succ]
          repeat (first | (refine Mix.lex_step rfl ?_; intro K hK; go_big_quiet_step (fail); refine Mix.lex_on hK ?_; clear hK K) | (refine Mix.lex_skip rfl ?_; simp only [Act.put, List.setIfInBounds_toArray, List.set_cons_zero, List.set_cons_succ]))
          refine Mix.lex_nil ?_
          have HB9 := HWW j3
          generalize W j3 = w9 at HB9 ⊢
          clear HWW hW hC d0 d1
          go_wp2
          go_roundw
          case rel => exact ⟨0 + 1, by omega, by go_num, HN, HB9⟩
          case measure => simp [intOf]; omega
        · obtain ⟨b', o', z, e5, _, hz, z0, _⟩ := rv_at H.out (show k - 1 < n by omega)
          injection e5 with e5
          injection e5 with e5 e6
          subst e5 e6
          have HZ := Lib.hid hz
          have m1 : IntKind.i64.wrap ((k : Int) - 1) = (k : Int) - 1 := IntWalk.i64_in _ ⟨by omega, by omega⟩
          have p1 : (0 : Int) ≤ (k : Int) - 1 := by omega
          have p2 : (1 : Int) ≤ (k : Int) := by omega
          have p3 : (k : Int) - 1 < (n : Int) := by omega
          have p4 : decide ((0 : Int) < (k : Int)) = true := decide_eq_true (by omega)
          have p6 : decide (0 < k) = true := decide_eq_true (by omega)
          have d2 : ∀ i, (W i).cell? ⟨b, o + (k - 1) * 2, none⟩ = some (.int .i64 z.1) := fun i => ((HWW i).out.cell (p := ⟨b, o + (k - 1) * 2, none⟩) hbl).trans z0
          clear hz z0
          cases hq : decide (p.1 ≤ z.1) with
          | true =>
            have HF : Hid (decide (Rt l) = false) := decide_eq_false fun hr => okf_bad HP.out (.inr ⟨by omega, z, HZ.out, of_decide_eq_true hq⟩) ((rt_okf l).1 hr).1
            refine Mix.wp_region_lex (fun w' => ∃ i, w' = W i) (by kernel_rfl) (by kernel_rfl) ⟨i0, h0⟩ ?_
            rw [h0]
            clear h0
            repeat (first | (refine Mix.lex_step rfl ?_; intro K hK; go_big_quiet_step (fail); refine Mix.lex_on hK ?_; clear hK K) | (refine Mix.lex_skip rfl ?_; simp only [Act.put, List.setIfInBounds_toArray, List.set_cons_zero, List.set_cons_succ]))
            refine Mix.lex_call (may_any p (W i0)) rfl rfl rfl (fun _ => rfl) ?_
            rw [hm]
            rintro e3 w3 ⟨rfl, hb3⟩
            obtain ⟨j3, rfl⟩ := hC _ w3 hb3
            refine ⟨_, rfl, ⟨j3, rfl⟩, ?_⟩
            simp only [Act.put, List.setIfInBounds_toArray, List.set_cons_zero, List.set_cons_succ]
            repeat (first | (refine Mix.lex_step rfl ?_; intro K hK; go_big_quiet_step (fail); refine Mix.lex_on hK ?_; clear hK K) | (refine Mix.lex_skip rfl ?_; simp only [Act.put, List.setIfInBounds_toArray, List.set_cons_zero, List.set_cons_succ]))
            refine Mix.lex_nil ?_
            have HB9 := HWW j3
            generalize W j3 = w9 at HB9 ⊢
            clear HWW hW hC d0 d1
            go_wp2
            go_ret
            exact ⟨by rw [HF.out]; rfl, HB9.out⟩
          | false =>
            have HN := Lib.hid (okf_next HP.out HO.out HK.out (fun _ y hy => by
              have hz' := HZ.out
              rw [hz'] at hy
              injection hy with hy
              subst hy
              have := of_decide_eq_false hq
              omega))
            refine Mix.wp_region_lex (fun w' => ∃ i, w' = W i) (by kernel_rfl) (by kernel_rfl) ⟨i0, h0⟩ ?_
            rw [h0]
            clear h0
            repeat (first | (refine Mix.lex_step rfl ?_; intro K hK; go_big_quiet_step (fail); refine Mix.lex_on hK ?_; clear hK K) | (refine Mix.lex_skip rfl ?_; simp only [Act.put, List.setIfInBounds_toArray, List.set_cons_zero, List.set_cons_succ]))
            refine Mix.lex_call (may_any p (W i0)) rfl rfl rfl (fun _ => rfl) ?_
            rw [hm]
            rintro e3 w3 ⟨rfl, hb3⟩
            obtain ⟨j3, rfl⟩ := hC _ w3 hb3
            refine ⟨_, rfl, ⟨j3, rfl⟩, ?_⟩
            simp only [Act.put, List.setIfInBounds_toArray, List.set_cons_zero, List.set_cons_succ]
            repeat (first | (refine Mix.lex_step rfl ?_; intro K hK; go_big_quiet_step (fail); refine Mix.lex_on hK ?_; clear hK K) | (refine Mix.lex_skip rfl ?_; simp only [Act.put, List.setIfInBounds_toArray, List.set_cons_zero, List.set_cons_succ]))
            refine Mix.lex_nil ?_
            have HB9 := HWW j3
            generalize W j3 = w9 at HB9 ⊢
            clear HWW hW hC d0 d1
            go_wp2
            go_roundw
            case rel => exact ⟨k + 1, by omega, by go_num, HN, HB9⟩
            case measure => simp [intOf]; omega
    · have hkn : k = n := by omega
      have ht : l.take k = l := List.take_of_length_le (by rw [HL.out]; omega)
      rw [ht] at HO
      have HF : Hid (decide (Rt l) = true) := decide_eq_true ((rt_okf l).2 ⟨HO.out, by rw [HL.out]; omega⟩)
      go_wp2
      go_ret
      exact ⟨by rw [HF.out]; rfl, HB.out⟩
end Go.Proofs.Ytfmmpmpafgbidaa.Rv
