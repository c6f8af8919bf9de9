/- Layer 14 (grid): GridFinds as a walk, out of what the program's functions must do. -/
import Derived.Test.YtddlenbahidkaaaGdL
namespace Go.Proofs.Ytddlenbahidkaaa.Gd
open Go.RowKit Rec Ints Ge

section
variable {Gr : World → Addr → List C → Int → Prop}
set_option maxHeartbeats 1600000 in
set_option maxRecDepth 100000 in
theorem finds_walk (k : Oks Gr) (A : Option Addr) (n c : Nat) (l : List C) (s n0 n1 n2 n3 : Int) (w : World) (hnil : A = none → c = 0) (hnc : n ≤ c) (hcm : c ≤ maxLen) (hl : ∀ p ∈ l, B64p p) (hs : B64 s) (b0 : B64 n0) (b1 : B64 n1) (b2 : B64 n2) (b3 : B64 n3) (h : RRow twoS w w.heap.size A n l) :
    Calls Try.prog 3 #[.slice A n c, .int .i64 s, .agg #[.int .i64 n0, .int .i64 n1, .int .i64 n2, .int .i64 n3]] w fun e w' => e = .returned (.bool true) ∧ Below w.heap.size w w' := by
  have HLN := Lib.hid h.len
  have HLB := Lib.hid hl
  have HS := Lib.hid hs
  have HN0 := Lib.hid b0
  have HN1 := Lib.hid b1
  have HN2 := Lib.hid b2
  have HN3 := Lib.hid b3
  have HCM := Lib.hid (And.intro hnc (And.intro hcm hnil))
  have HB0 : Hid (Below w.heap.size w (w.alloc (.cells #[.int .i64 n0, .int .i64 n1, .int .i64 n2, .int .i64 n3] 23))) := (Below.refl _ _).alloc (Nat.le_refl _) _
  have HK0 := Lib.hid (heap_alloc_new w (.cells #[.int .i64 n0, .int .i64 n1, .int .i64 n2, .int .i64 n3] 23))
  have HW0 : Hid (RRow twoS (w.alloc (.cells #[.int .i64 n0, .int .i64 n1, .int .i64 n2, .int .i64 n3] 23)) w.heap.size A n l) := h.below HB0.out
  clear h hl hs b0 b1 b2 b3 hnc hcm hnil
  go_enter Try.func3, Try.ntmps3
  go_wp2_with fail
  generalize w.alloc (.cells #[.int .i64 n0, .int .i64 n1, .int .i64 n2, .int .i64 n3] 23) = wa at *
  refine (awake_any k _).mono ?_
  rintro e1 w1 ⟨rfl, hb1⟩
  have hsz1 : w.heap.size < w1.heap.size := by have := (Array.getElem?_eq_some_iff.1 HK0.out).1; have := hb1.size; omega
  have HB1 := Lib.hid (HB0.out.trans (hb1.mono HB0.out.size))
  have HK1 := Lib.hid ((hb1.block _ (Array.getElem?_eq_some_iff.1 HK0.out).1).trans HK0.out)
  have HW1 : Hid (RRow twoS w1 w1.heap.size A n l) := (HW0.out.below (hb1.mono HB0.out.size)).more HB1.out.size
  clear hb1 HB0 HK0 HW0
  by_cases h200 : 200 < n
  · have d0 : decide ((200 : Int) < (n : Int)) = true := decide_eq_true (by omega)
    go_wp2
    go_ret
    exact ⟨rfl, HB1.out⟩
  have d0 : decide ((200 : Int) < (n : Int)) = false := decide_eq_false (by omega)
  go_wp2_with fail
  refine (k.new A n c l s w1 HW1.out HCM.out.2.2 HCM.out.1 HCM.out.2.1 (by omega) HLB.out HS.out).mono ?_
  rintro e2 w2 ⟨v2, rfl, hno, hyes, hb2⟩
  have HB2 := Lib.hid (HB1.out.trans (hb2.mono HB1.out.size))
  have HK2 := Lib.hid ((hb2.block _ hsz1).trans HK1.out)
  have HW2 : Hid (RRow twoS w2 w2.heap.size A n l) := (HW1.out.below hb2).more hb2.size
  clear hb2 HB1 HK1 HW1
  by_cases hrt : ¬ right l s = 0
  · obtain rfl := hno hrt
    obtain ⟨rt, hr⟩ : ∃ rt, right l s = rt := ⟨_, rfl⟩
    rw [hr] at hrt ⊢
    have HRT := Lib.hid hr
    have f1 : ((rt : Int) == 0) = false := beq_eq_false_iff_ne.2 (by omega)
    clear hno hyes hr
    go_wp2_with fail
    refine (refright_any A n c _ l s w2 (by omega) HW2.out).mono ?_
    rw [HRT.out]
    rintro e3 w3 ⟨rfl, q3, rfl⟩
    have HB3 := Lib.hid (below_drewN HB2.out q3)
    generalize w2.drewN q3 = w3 at *
    go_wp2
    go_ret
    exact ⟨by simp, HB3.out⟩
  have hrt := Classical.not_not.1 hrt
  obtain ⟨a, rfl, hgr⟩ := hyes hrt
  have HRT := Lib.hid hrt
  rw [hrt]
  have HG2 : Hid (Gx Gr w a l s A n #[.int .i64 n0, .int .i64 n1, .int .i64 n2, .int .i64 n3] 23 w2) := ⟨HK2.out, HB2.out, hgr, HW2.out⟩
  have HSI := Lib.hid (right_is hrt)
  clear hno hyes hgr hrt HB2 HK2 HW2
  go_wp2_with fail
  refine (refright_any A n c _ l s w2 (by omega) HG2.out.row).mono ?_
  rw [HRT.out]
  rintro e3 w3 ⟨rfl, q3, rfl⟩
  have HG3 := Lib.hid (HG2.out.below k (below_drewN (Below.refl _ _) q3))
  generalize w2.drewN q3 = w3 at *
  clear HG2
  go_wp2_with fail
  refine (k.len a l s w3 HG3.out.gr (by rw [HLN.out]; omega)).mono ?_
  rw [HLN.out]
  rintro e4 w4 ⟨rfl, hb4⟩
  have HG4 := Lib.hid (HG3.out.below k hb4)
  clear hb4 HG3
  have p0 : w4.cell? ⟨w.heap.size, 0, none⟩ = some (.int .i64 n0) := cell_of_blk HG4.out.arr rfl
  have p1 : w4.cell? ⟨w.heap.size, 1, none⟩ = some (.int .i64 n1) := cell_of_blk HG4.out.arr rfl
  have HG5 := Lib.hid (HG4.out.below k ((Below.refl w4.heap.size w4).alloc (Nat.le_refl _) (.cells #[.int .i64 n0, .int .i64 n1] 32)))
  have HK5 := Lib.hid (heap_alloc_new w4 (.cells #[.int .i64 n0, .int .i64 n1] 32))
  clear HG4
  go_wp2_with fail
  obtain ⟨gc, hgc⟩ : ∃ gc, w4.heap.size = gc := ⟨_, rfl⟩
  rw [hgc] at HK5 ⊢
  generalize w4.alloc (.cells #[.int .i64 n0, .int .i64 n1] 32) = w5 at *
  clear hgc p0 p1 w4
  have hgc5 : gc < w5.heap.size := (Array.getElem?_eq_some_iff.1 HK5.out).1
  obtain ⟨ι, hne, W, i0, h0, hW, hC⟩ := fam_of w5
  have HWG : ∀ i, Hid (Gx Gr w a l s A n #[.int .i64 n0, .int .i64 n1, .int .i64 n2, .int .i64 n3] 23 (W i)) := fun i => HG5.out.below k (hW i)
  have d1 : ∀ i, (W i).cell? ⟨gc, 0, none⟩ = some (.int .i64 n0) := fun i => cell_of_blk (((hW i).block _ hgc5).trans HK5.out) rfl
  have d2 : ∀ i, (W i).cell? ⟨gc, 1, none⟩ = some (.int .i64 n1) := fun i => cell_of_blk (((hW i).block _ hgc5).trans HK5.out) rfl
  have HLC : Hid (∀ m : Nat, m ≤ l.length → m ≤ 200) := fun m hm => by have := HLN.out; omega
  refine Mix.wp_region_lex (fun w' => ∃ i, w' = W i) (by kernel_rfl) (by kernel_rfl) ⟨i0, h0⟩ ?_
  rw [h0]
  clear h0 HG5
  repeat (first | (refine Mix.lex_step rfl ?_; intro K hK; go_big_quiet_step (fail); refine Mix.lex_on hK ?_; clear hK K) | (refine Mix.lex_skip rfl ?_; simp only [Act.put, List.setIfInBounds_toArray, List.set_cons_zero, List.set_cons_succ]))
  refine Mix.lex_call (k.cell a l s (n0, n1) (W i0) (HWG i0).out.gr (by rw [HLN.out]; omega) HLB.out HRT.out ⟨HN0.out, HN1.out⟩) rfl rfl rfl (fun _ => rfl) ?_
  rintro e6 w6 ⟨v6, rfl, A6, n6, c6, rfl, hr6, -, -, -, hb6⟩
  obtain ⟨j6, rfl⟩ := hC _ w6 hb6
  have HR6 := Lib.hid hr6
  have HL6 := Lib.hid hr6.len
  clear hb6 hr6
  refine ⟨_, rfl, ⟨j6, rfl⟩, ?_⟩
  simp only [Act.put, List.setIfInBounds_toArray, List.set_cons_zero, List.set_cons_succ]
  repeat (first | (refine Mix.lex_step rfl ?_; intro K hK; go_big_quiet_step (fail); refine Mix.lex_on hK ?_; clear hK K) | (refine Mix.lex_skip rfl ?_; simp only [Act.put, List.setIfInBounds_toArray, List.set_cons_zero, List.set_cons_succ]))
  refine Mix.lex_call (refcell_any A n c l s (n0, n1) (W j6) (by omega) HSI.out.1 HLB.out (HWG j6).out.row) rfl rfl rfl (fun _ => rfl) ?_
  rintro e7 w7 ⟨v7, rfl, A7, n7, c7, rfl, hr7, -, -, -, hb7⟩
  have HR67 := Lib.hid (HR6.out.below hb7)
  obtain ⟨j7, rfl⟩ := hC _ w7 hb7
  have HR7 := Lib.hid hr7
  clear hb7 hr7 HR6
  refine ⟨_, rfl, ⟨j7, rfl⟩, ?_⟩
  simp only [Act.put, List.setIfInBounds_toArray, List.set_cons_zero, List.set_cons_succ]
  repeat (first | (refine Mix.lex_step rfl ?_; intro K hK; go_big_quiet_step (fail); refine Mix.lex_on hK ?_; clear hK K) | (refine Mix.lex_skip rfl ?_; simp only [Act.put, List.setIfInBounds_toArray, List.set_cons_zero, List.set_cons_succ]))
  refine Mix.lex_call (isame_any A6 A7 n6 n7 c6 c7 _ _ (nums (Gd.cell l s (n0, n1))) (nums (Gd.cell l s (n0, n1))) (W j7) (by have h1 := HL6.out; rw [nums_len] at h1; have := HLC.out _ (cell_len l s (n0, n1)); omega) HR67.out HR7.out) rfl rfl rfl (fun _ => rfl) ?_
  rw [decide_eq_true rfl]
  rintro e8 w8 ⟨rfl, q8, hq8⟩
  obtain ⟨j8, rfl⟩ := hC j7 w8 (by rw [hq8]; exact below_drewN (Below.refl _ _) q8)
  clear hq8
  refine ⟨_, rfl, ⟨j8, rfl⟩, ?_⟩
  simp only [Act.put, List.setIfInBounds_toArray, List.set_cons_zero, List.set_cons_succ]
  repeat (first | (refine Mix.lex_step rfl ?_; intro K hK; go_big_quiet_step (fail); refine Mix.lex_on hK ?_; clear hK K) | (refine Mix.lex_skip rfl ?_; simp only [Act.put, List.setIfInBounds_toArray, List.set_cons_zero, List.set_cons_succ]))
  refine Mix.lex_nil ?_
  have HG8 := HWG j8
  generalize W j8 = w8 at *
  clear HWG d1 d2 hW hC HR67 HR7 HK5 HL6 hgc5
  have p0 : w8.cell? ⟨w.heap.size, 0, none⟩ = some (.int .i64 n0) := cell_of_blk HG8.out.arr rfl
  have p1 : w8.cell? ⟨w.heap.size, 1, none⟩ = some (.int .i64 n1) := cell_of_blk HG8.out.arr rfl
  have p2 : w8.cell? ⟨w.heap.size, 2, none⟩ = some (.int .i64 n2) := cell_of_blk HG8.out.arr rfl
  have p3 : w8.cell? ⟨w.heap.size, 3, none⟩ = some (.int .i64 n3) := cell_of_blk HG8.out.arr rfl
  go_wp2_with fail
  refine (k.near a l s n0 n1 n2 n3 w8 HG8.out.gr (by rw [HLN.out]; omega) HLB.out HRT.out HN0.out HN1.out HN2.out HN3.out).mono ?_
  rintro e9 w9 ⟨v9, rfl, A9, m9, c9, rfl, hr9, -, -, -, hb9⟩
  have HR9 := Lib.hid hr9
  have HG9 := Lib.hid (HG8.out.below k hb9)
  clear hr9 hb9 p0 p1 p2 p3 HG8
  have p0 : w9.cell? ⟨w.heap.size, 0, none⟩ = some (.int .i64 n0) := cell_of_blk HG9.out.arr rfl
  have p1 : w9.cell? ⟨w.heap.size, 1, none⟩ = some (.int .i64 n1) := cell_of_blk HG9.out.arr rfl
  obtain ⟨T9, hT9⟩ : ∃ T9, nearT l n0 n1 n2 n3 = T9 := ⟨_, rfl⟩
  rw [hT9] at HR9 ⊢
  have HT9 := Lib.hid hT9
  clear hT9
  obtain ⟨L9, E9⟩ := T9
  simp only at HR9
  go_wp2_with fail
  refine (k.nearest a l s n0 n1 w9 HG9.out.gr (by rw [HLN.out]; omega) HLB.out HRT.out HN0.out HN1.out).mono ?_
  rintro e10 w10 ⟨rfl, hb10⟩
  have HR10 := Lib.hid ((HR9.out.below hb10).more hb10.size)
  have HG10 := Lib.hid (HG9.out.below k hb10)
  clear hb10 p0 p1 HG9 HR9
  have p0 : w10.cell? ⟨w.heap.size, 0, none⟩ = some (.int .i64 n0) := cell_of_blk HG10.out.arr rfl
  have p1 : w10.cell? ⟨w.heap.size, 1, none⟩ = some (.int .i64 n1) := cell_of_blk HG10.out.arr rfl
  have p2 : w10.cell? ⟨w.heap.size, 2, none⟩ = some (.int .i64 n2) := cell_of_blk HG10.out.arr rfl
  have p3 : w10.cell? ⟨w.heap.size, 3, none⟩ = some (.int .i64 n3) := cell_of_blk HG10.out.arr rfl
  obtain ⟨T8, hT8⟩ : ∃ T8, nstT l n0 n1 = T8 := ⟨_, rfl⟩
  rw [hT8]
  have HT8 := Lib.hid hT8
  clear hT8
  obtain ⟨iv, ok⟩ := T8
  cases hm : decide (may n0 n1) with
  | false =>
    have e9 : (L9, E9) = (([] : List Int), 2) := HT9.out.symm.trans (nearT_no (.inl (of_decide_eq_false hm)))
    injection e9 with e9 e9'
    subst e9 e9'
    have e8 : (iv, ok) = ((0 : Int), false) := HT8.out.symm.trans (nstT_no (of_decide_eq_false hm))
    injection e8 with e8 e8'
    subst e8 e8'
    have hm9 : m9 = 0 := HR10.out.len.symm
    subst hm9
    have HMF : Hid (∀ wx : World, Calls Try.prog 14 #[.int .i64 n0, .int .i64 n1] wx fun e w' => e = .returned (.bool false) ∧ w' = wx) := fun wx => by have := refmay_any n0 n1 wx; rw [hm] at this; exact this
    clear hm
    go_wp2_with fail
    refine (HMF.out _).mono ?_
    rintro e11 w11 ⟨rfl, rfl⟩
    go_wp2
    go_ret
    exact ⟨rfl, HG10.out.bel⟩
  | true =>
    have HMT : Hid (∀ wx : World, Calls Try.prog 14 #[.int .i64 n0, .int .i64 n1] wx fun e w' => e = .returned (.bool true) ∧ w' = wx) := fun wx => by have := refmay_any n0 n1 wx; rw [hm] at this; exact this
    have HM := Lib.hid (of_decide_eq_true hm)
    clear hm
    go_wp2_with fail
    refine (HMT.out _).mono ?_
    rintro e11 w11 ⟨rfl, rfl⟩
    go_wp2_with fail
    refine (refnear_any A n c 1 l n0 n1 134217728 _ (by omega) ⟨by omega, by omega⟩ HG10.out.row).mono ?_
    rintro e12 w12 ⟨v12, rfl, A12, m12, c12, rfl, hr12, -, -, -, hb12⟩
    have HR12 := Lib.hid hr12
    have HR11 := Lib.hid ((HR10.out.below hb12).more hb12.size)
    have HG12 := Lib.hid (HG10.out.below k hb12)
    clear hr12 hb12 HG10 HR10 p0 p1 p2 p3
    have p0 : w12.cell? ⟨w.heap.size, 0, none⟩ = some (.int .i64 n0) := cell_of_blk HG12.out.arr rfl
    have p1 : w12.cell? ⟨w.heap.size, 1, none⟩ = some (.int .i64 n1) := cell_of_blk HG12.out.arr rfl
    have p2 : w12.cell? ⟨w.heap.size, 2, none⟩ = some (.int .i64 n2) := cell_of_blk HG12.out.arr rfl
    have p3 : w12.cell? ⟨w.heap.size, 3, none⟩ = some (.int .i64 n3) := cell_of_blk HG12.out.arr rfl
    rcases Nat.eq_zero_or_pos n with hz | hz
    · have e8 : (iv, ok) = ((0 : Int), false) := HT8.out.symm.trans (nstT_nil (by rw [HLN.out]; exact hz))
      injection e8 with e8 e8'
      subst e8 e8'
      have g0 : decide ((0 : Int) < (n : Int)) = false := decide_eq_false (by omega)
      have g0' : decide (0 < n) = false := decide_eq_false (by omega)
      clear hz
      cases hb : decide (n2 < 0 ∨ 1048576 < n2 ∨ n3 < 0) with
      | true =>
        have e9 : (L9, E9) = (([] : List Int), 2) := HT9.out.symm.trans (nearT_no (.inr (of_decide_eq_true hb)))
        injection e9 with e9 e9'
        subst e9 e9'
        have hm9 : m9 = 0 := HR11.out.len.symm
        subst hm9
        have hb' := of_decide_eq_true hb
        clear hb
        by_cases q1 : n2 < 0
        · have g1 : decide (n2 < 0) = true := decide_eq_true q1
          go_wp2
          go_ret
          exact ⟨rfl, HG12.out.bel⟩
        have g1 : decide (n2 < 0) = false := decide_eq_false q1
        by_cases q2 : 1048576 < n2
        · have g2 : decide (1048576 < n2) = true := decide_eq_true q2
          go_wp2
          go_ret
          exact ⟨rfl, HG12.out.bel⟩
        have g2 : decide (1048576 < n2) = false := decide_eq_false q2
        have g3 : decide (n3 < 0) = true := decide_eq_true (by omega)
        go_wp2
        go_ret
        exact ⟨rfl, HG12.out.bel⟩
      | false =>
        have hb' := of_decide_eq_false hb
        have g1 : decide (n2 < 0) = false := decide_eq_false (by omega)
        have g2 : decide (1048576 < n2) = false := decide_eq_false (by omega)
        have g3 : decide (n3 < 0) = false := decide_eq_false (by omega)
        have e9 : (L9, E9) = (nums (near (n0, n1) l n2 n3.toNat), 0) := HT9.out.symm.trans (nearT_yes (by intro hh; rcases hh with hh | hh | hh | hh; exact hh HM.out; all_goals omega))
        injection e9 with e9 e9'
        subst e9 e9'
        obtain ⟨m, rfl⟩ : ∃ m : Nat, n3 = (m : Int) := ⟨n3.toNat, by omega⟩
        rw [Int.toNat_natCast] at HR11
        have hr2 : 0 ≤ n2 ∧ n2 ≤ 134217728 := by omega
        clear hb hb'
        go_wp2_with fail
        refine (refnear_any A n c m l n0 n1 n2 w12 (by omega) hr2 HG12.out.row).mono ?_
        rintro e13 w13 ⟨v13, rfl, A13, m13, c13, rfl, hr13, -, -, -, hb13⟩
        have HR13 := Lib.hid hr13
        have HR14 := Lib.hid (HR11.out.below hb13)
        have HB13 := Lib.hid (HG12.out.bel.trans (hb13.mono HG12.out.bel.size))
        have HLM : Hid (m9 ≤ 4398046511104) := by
          have h1 := HR11.out.len
          rw [nums_len] at h1
          have := HLC.out _ (near_len (n0, n1) l n2 m)
          unfold Hid
          omega
        clear hr13 hb13 HG12 HR11
        go_wp2_with fail
        refine (isame_any A9 A13 m9 m13 c9 c13 _ _ _ _ w13 HLM.out HR14.out HR13.out).mono ?_
        rw [decide_eq_true rfl]
        rintro e14 w14 ⟨rfl, q14, rfl⟩
        go_wp2
        go_ret
        exact ⟨rfl, below_drewN HB13.out q14⟩
    · obtain ⟨i1, hi1⟩ := near_first (p := (n0, n1)) (l := l) (by rw [HLN.out]; exact hz)
      have e8 : (iv, ok) = ((i1 : Int), true) := HT8.out.symm.trans (nstT_yes HM.out hi1)
      injection e8 with e8 e8'
      subst e8 e8'
      have g0 : decide ((0 : Int) < (n : Int)) = true := decide_eq_true (by omega)
      have g0' : decide (0 < n) = true := decide_eq_true hz
      have hl12 := HR12.out.len
      rw [hi1] at hl12
      have hm12 : 1 = m12 := hl12
      subst hm12
      obtain ⟨b12, o12, x12, rfl, -, hx12, y0⟩ := int_at HR12.out (show 0 < 1 by omega)
      rw [hi1] at hx12
      have hx : (i1 : Int) = x12 := by injection hx12
      subst hx
      rw [Nat.add_zero] at y0
      clear hx12 hl12 hi1
      cases hb : decide (n2 < 0 ∨ 1048576 < n2 ∨ n3 < 0) with
      | true =>
        have e9 : (L9, E9) = (([] : List Int), 2) := HT9.out.symm.trans (nearT_no (.inr (of_decide_eq_true hb)))
        injection e9 with e9 e9'
        subst e9 e9'
        have hm9 : m9 = 0 := HR11.out.len.symm
        subst hm9
        have hb' := of_decide_eq_true hb
        clear hb
        by_cases q1 : n2 < 0
        · have g1 : decide (n2 < 0) = true := decide_eq_true q1
          go_wp2
          go_ret
          exact ⟨rfl, HG12.out.bel⟩
        have g1 : decide (n2 < 0) = false := decide_eq_false q1
        by_cases q2 : 1048576 < n2
        · have g2 : decide (1048576 < n2) = true := decide_eq_true q2
          go_wp2
          go_ret
          exact ⟨rfl, HG12.out.bel⟩
        have g2 : decide (1048576 < n2) = false := decide_eq_false q2
        have g3 : decide (n3 < 0) = true := decide_eq_true (by omega)
        go_wp2
        go_ret
        exact ⟨rfl, HG12.out.bel⟩
      | false =>
        have hb' := of_decide_eq_false hb
        have g1 : decide (n2 < 0) = false := decide_eq_false (by omega)
        have g2 : decide (1048576 < n2) = false := decide_eq_false (by omega)
        have g3 : decide (n3 < 0) = false := decide_eq_false (by omega)
        have e9 : (L9, E9) = (nums (near (n0, n1) l n2 n3.toNat), 0) := HT9.out.symm.trans (nearT_yes (by intro hh; rcases hh with hh | hh | hh | hh; exact hh HM.out; all_goals omega))
        injection e9 with e9 e9'
        subst e9 e9'
        obtain ⟨m, rfl⟩ : ∃ m : Nat, n3 = (m : Int) := ⟨n3.toNat, by omega⟩
        rw [Int.toNat_natCast] at HR11
        have hr2 : 0 ≤ n2 ∧ n2 ≤ 134217728 := by omega
        clear hb hb'
        go_wp2_with fail
        refine (refnear_any A n c m l n0 n1 n2 w12 (by omega) hr2 HG12.out.row).mono ?_
        rintro e13 w13 ⟨v13, rfl, A13, m13, c13, rfl, hr13, -, -, -, hb13⟩
        have HR13 := Lib.hid hr13
        have HR14 := Lib.hid (HR11.out.below hb13)
        have HB13 := Lib.hid (HG12.out.bel.trans (hb13.mono HG12.out.bel.size))
        have HLM : Hid (m9 ≤ 4398046511104) := by
          have h1 := HR11.out.len
          rw [nums_len] at h1
          have := HLC.out _ (near_len (n0, n1) l n2 m)
          unfold Hid
          omega
        clear hr13 hb13 HG12 HR11
        go_wp2_with fail
        refine (isame_any A9 A13 m9 m13 c9 c13 _ _ _ _ w13 HLM.out HR14.out HR13.out).mono ?_
        rw [decide_eq_true rfl]
        rintro e14 w14 ⟨rfl, q14, rfl⟩
        go_wp2
        go_ret
        exact ⟨rfl, below_drewN HB13.out q14⟩
end
end Go.Proofs.Ytddlenbahidkaaa.Gd
