/- Layer 12 (revoke): RevokeFits as a walk, out of what the program's functions must do. -/
import Derived.Test.YtfmmpmpafgbidaaRvX
namespace Go.Proofs.Ytfmmpmpafgbidaa.Rv
open Go.RowKit Rec

theorem rt_add {l : List P} {x : P} (h : Rt l) (hx : okp x) (hl : l.length + 1 ≤ 4096) : Rt (add l x) := by
  refine ⟨okp_add h.ok hx, asc_add h.asc x, ?_⟩
  have := len_add h.asc x
  split at this <;> omega
theorem addT_yes {l : List P} {x : P} (h : Rt l) (hx : okp x) (hl : l.length + 1 ≤ 4096) : addT l x = (add l x, 0) := by
  unfold addT
  rw [if_pos ⟨h, hx⟩, if_pos (rt_add h hx hl).len]

/-- Behind the law's box: the numbers in block G. -/
structure Bn (w0 : World) (n0 n1 : Int) (w' : World) : Prop where
  nb : w'.heap[w0.heap.size]? = some (.cells #[.int .i64 n0, .int .i64 n1] 25 (0, 0))
  bel : Below w0.heap.size w0 w'
theorem Bn.below {w0 w1 w2 : World} {n0 n1 : Int} (h : Bn w0 n0 n1 w1) (hb : Below w1.heap.size w1 w2) : Bn w0 n0 n1 w2 :=
  ⟨(hb.block _ (Array.getElem?_eq_some_iff.1 h.nb).1).trans h.nb, h.bel.trans (hb.mono h.bel.size)⟩
/-- A list that came back, and what lay. -/
structure Kept (w : World) (B : Nat) (A : Option Addr) (n : Nat) (c : Nat) (l : List P) : Prop where
  row : RRow rvS w B A n l
  nil_ : A = none → c = 0
  le : n ≤ c
  max : c ≤ maxLen
theorem Kept.next {w w' : World} {A : Option Addr} {n c : Nat} {l : List P} (h : Kept w w.heap.size A n c l) (hb : Below w.heap.size w w') : Kept w' w'.heap.size A n c l := ⟨(h.row.below hb).more hb.size, h.nil_, h.le, h.max⟩

set_option maxHeartbeats 3200000 in
set_option maxRecDepth 100000 in
theorem fits_walk (hR : RightOk) (hH : HasOk) (hP : PruneOk) (hA : AddOk) (hM : MergeOk) (A A' : Option Addr) (n n' c c' : Nat) (a b : List P) (n0 n1 : Int) (w : World) (h : RRow rvS w w.heap.size A n a) (hnil : A = none → c = 0) (hnc : n ≤ c) (hcm : c ≤ maxLen)
    (h' : RRow rvS w w.heap.size A' n' b) (hnil' : A' = none → c' = 0) (hnc' : n' ≤ c') (hcm' : c' ≤ maxLen) :
    Calls Try.prog 5 #[.slice A n c, .slice A' n' c', .agg #[.int .i64 n0, .int .i64 n1]] w fun e w' => e = .returned (.bool true) ∧ Below w.heap.size w w' := by
  have HA : Hid (Kept w w.heap.size A n c a) := ⟨h, hnil, hnc, hcm⟩
  have HA' : Hid (Kept w w.heap.size A' n' c' b) := ⟨h', hnil', hnc', hcm'⟩
  have HL := Lib.hid h.len
  have HL' := Lib.hid h'.len
  have hba : Below w.heap.size w (w.alloc (.cells #[.int .i64 n0, .int .i64 n1] 25)) := (Below.refl _ _).alloc (Nat.le_refl _) _
  have HB : Hid (Bn w n0 n1 (w.alloc (.cells #[.int .i64 n0, .int .i64 n1] 25))) := ⟨heap_alloc_new w _, hba⟩
  clear h hnil hnc hcm h' hnil' hnc' hcm' hba
  go_enter Try.func5, Try.ntmps5
  go_wp2_with fail
  refine (awake_any hA hH _).mono ?_
  rintro e1 w1 ⟨rfl, hb1⟩
  have HB1 := Lib.hid (HB.out.below hb1)
  clear hb1 HB
  by_cases hbig : 300 < n
  · have hd : decide (300 < (n : Int)) = true := decide_eq_true (by omega)
    go_wp2
    go_ret
    exact ⟨rfl, HB1.out.bel⟩
  have hd : decide (300 < (n : Int)) = false := decide_eq_false (by omega)
  by_cases hbig' : 300 < n'
  · have hd' : decide (300 < (n' : Int)) = true := decide_eq_true (by omega)
    go_wp2
    go_ret
    exact ⟨rfl, HB1.out.bel⟩
  have hd' : decide (300 < (n' : Int)) = false := decide_eq_false (by omega)
  have R1 := Lib.hid (HA.out.next HB1.out.bel)
  have R1' := Lib.hid (HA'.out.next HB1.out.bel)
  go_wp2_with fail
  refine (hM A A' n n' c c' a b w1 R1.out.row R1.out.nil_ R1.out.le R1.out.max (by omega) R1'.out.row R1'.out.nil_ R1'.out.le R1'.out.max (by omega)).mono ?_
  rintro e2 w2 ⟨v2, rfl, A2, n2, c2, rfl, hr2, hnil2, hnc2, hcm2, hb2⟩
  have HM2 : Hid (Kept w2 w2.heap.size A2 n2 c2 (mergeT a b).1) := ⟨hr2, hnil2, hnc2, hcm2⟩
  obtain rfl := hr2.len
  have HB2 := Lib.hid (HB1.out.below hb2)
  have R2 := Lib.hid (R1.out.next hb2)
  have R2' := Lib.hid (R1'.out.next hb2)
  clear hr2 hb2 R1 R1' HB1 hnil2 hnc2 hcm2
  by_cases hab : ¬ (Rt a ∧ Rt b)
  · have HT := Lib.hid (mergeT_no hab)
    clear hab
    rw [HT.out] at HM2 ⊢
    go_wp2
    go_ret
    exact ⟨rfl, HB2.out.bel⟩
  have HRA : Hid (Rt a) := (Decidable.not_not.1 hab).1
  have HRB : Hid (Rt b) := (Decidable.not_not.1 hab).2
  clear hab
  have HT : Hid (mergeT a b = (adds a b, 0)) := mergeT_yes HRA.out HRB.out (by rw [HL.out, HL'.out]; omega)
  have HRM : Hid (Rt (adds a b)) := rt_adds HRA.out HRB.out (by rw [HL.out, HL'.out]; omega)
  have hlm : (adds a b).length ≤ 600 := by have := len_adds (b := b) HRA.out.asc; have := HL.out; have := HL'.out; omega
  rw [HT.out] at HM2 ⊢
  have HOR : Hid (has (adds a b) n0 n1 = (has a n0 n1 || has b n0 n1)) := has_adds HRA.out.asc HRB.out.asc n0 n1
  have HPR : Hid (has (prune (adds a b) n1) n0 n1 = has (adds a b) n0 n1) := has_prune HRM.out.asc n1 n0
  have HRP : Hid (Rt (prune (adds a b) n1)) := rt_prune HRM.out n1
  have hlp : (prune (adds a b) n1).length ≤ 600 := by have := prune_len (adds a b) n1; omega
  have n0c : w2.cell? ⟨w.heap.size, 0, none⟩ = some (.int .i64 n0) := cell_of_blk HB2.out.nb rfl
  have n1c : w2.cell? ⟨w.heap.size, 1, none⟩ = some (.int .i64 n1) := cell_of_blk HB2.out.nb rfl
  generalize adds a b = m at *
  go_wp2_with fail
  go_quiet (fail)
  have HB3 := Lib.hid (HB2.out.below (below_drewN (Below.refl w2.heap.size w2) nq))
  have HM3 := Lib.hid (HM2.out.next (below_drewN (Below.refl w2.heap.size w2) nq))
  have R3 := Lib.hid (R2.out.next (below_drewN (Below.refl w2.heap.size w2) nq))
  have R3' := Lib.hid (R2'.out.next (below_drewN (Below.refl w2.heap.size w2) nq))
  clear HB2 HM2 R2 R2' n0c n1c
  generalize w2.drewN nq = w3 at *
  go_wp2_with fail
  refine (hR A2 _ c2 m w3 HM3.out.row HM3.out.nil_ HM3.out.le HM3.out.max (by omega)).mono ?_
  rw [decide_eq_true HRM.out]
  rintro e4 w4 ⟨rfl, hb4⟩
  have HB4 := Lib.hid (HB3.out.below hb4)
  have HM4 := Lib.hid (HM3.out.next hb4)
  have R4 := Lib.hid (R3.out.next hb4)
  have R4' := Lib.hid (R3'.out.next hb4)
  clear hb4 HB3 HM3 R3 R3'
  cases va : has a n0 n1 with
  | true =>
    have HV : Hid (has m n0 n1 = true) := by rw [HOR.out, va]; rfl
    go_wp2_with fail
    refine (hH A2 _ c2 m n0 n1 w4 HM4.out.row HM4.out.nil_ HM4.out.le HM4.out.max HRM.out).mono ?_
    rw [HV.out]
    rintro e5 w5 ⟨rfl, hb5⟩
    have HB5 := Lib.hid (HB4.out.below hb5)
    have HM5 := Lib.hid (HM4.out.next hb5)
    have R5 := Lib.hid (R4.out.next hb5)
    have R5' := Lib.hid (R4'.out.next hb5)
    clear hb5 HB4 HM4 R4 R4'
    go_wp2_with fail
    refine (hH A n c a n0 n1 w5 R5.out.row R5.out.nil_ R5.out.le R5.out.max HRA.out).mono ?_
    rw [va]
    rintro e6 w6 ⟨rfl, hb6⟩
    have HB6 := Lib.hid (HB5.out.below hb6)
    have HM6 := Lib.hid (HM5.out.next hb6)
    have R6 := Lib.hid (R5.out.next hb6)
    have R6' := Lib.hid (R5'.out.next hb6)
    clear hb6 HB5 HM5 R5 R5'
    go_wp2_with fail
    refine (hP A2 _ c2 m n1 w6 HM6.out.row HM6.out.nil_ HM6.out.le HM6.out.max (by omega)).mono ?_
    rintro e7 w7 ⟨vp, rfl, Ap, np, cp, rfl, hrp, hnilp, hncp, hcmp, hb7⟩
    have HP7 : Hid (Kept w7 w7.heap.size Ap np cp (prune m n1)) := ⟨hrp, hnilp, hncp, hcmp⟩
    obtain rfl := hrp.len
    have HB7 := Lib.hid (HB6.out.below hb7)
    have HM7 := Lib.hid (HM6.out.next hb7)
    have R7 := Lib.hid (R6.out.next hb7)
    have R7' := Lib.hid (R6'.out.next hb7)
    clear hb7 HB6 HM6 R6 R6' hrp hnilp hncp hcmp
    go_wp2_with fail
    refine (hR Ap _ cp (prune m n1) w7 HP7.out.row HP7.out.nil_ HP7.out.le HP7.out.max (by omega)).mono ?_
    rw [decide_eq_true HRP.out]
    rintro e8 w8 ⟨rfl, hb8⟩
    have HB8 := Lib.hid (HB7.out.below hb8)
    have HM8 := Lib.hid (HM7.out.next hb8)
    have R8 := Lib.hid (R7.out.next hb8)
    have R8' := Lib.hid (R7'.out.next hb8)
    have HP8 := Lib.hid (HP7.out.next hb8)
    clear hb8 HB7 HM7 R7 R7' HP7
    go_wp2_with fail
    refine (hH Ap _ cp (prune m n1) n0 n1 w8 HP8.out.row HP8.out.nil_ HP8.out.le HP8.out.max HRP.out).mono ?_
    rw [HPR.out, HV.out]
    rintro e9 w9 ⟨rfl, hb9⟩
    have HB9 := Lib.hid (HB8.out.below hb9)
    have HM9 := Lib.hid (HM8.out.next hb9)
    have R9 := Lib.hid (R8.out.next hb9)
    have R9' := Lib.hid (R8'.out.next hb9)
    have HP9 := Lib.hid (HP8.out.next hb9)
    clear hb9 HB8 HM8 R8 R8' HP8
    go_wp2_with fail
    refine (hH A2 _ c2 m n0 n1 w9 HM9.out.row HM9.out.nil_ HM9.out.le HM9.out.max HRM.out).mono ?_
    rw [HV.out]
    rintro e10 w10 ⟨rfl, hb10⟩
    have HB10 := Lib.hid (HB9.out.below hb10)
    have HM10 := Lib.hid (HM9.out.next hb10)
    have R10 := Lib.hid (R9.out.next hb10)
    have R10' := Lib.hid (R9'.out.next hb10)
    have HP10 := Lib.hid (HP9.out.next hb10)
    clear hb10 HB9 HM9 R9 R9' HP9
    by_cases hz : n = 0
    · have hd3 : ((n : Int) == 0) = true := by rw [hz]; rfl
      subst hz
      go_wp2
      go_ret
      exact ⟨rfl, HB10.out.bel⟩
    have hd3 : ((n : Int) == 0) = false := beq_eq_false_iff_ne.2 (by omega)
    have hpos : 0 < n := by omega
    obtain ⟨bb, ob, p, rfl, hbl, hp, c0, c1⟩ := rv_at R10.out.row hpos
    rw [Nat.zero_mul, Nat.add_zero] at c0 c1
    have HKP : Hid (okp p) := HRA.out.ok p (List.mem_of_getElem? hp)
    have hlb : b.length + 1 ≤ 4096 := by have := HL'.out; omega
    have HAT := Lib.hid (addT_yes HRB.out HKP.out hlb)
    have HRX := Lib.hid (rt_add HRB.out HKP.out hlb)
    have HHX : Hid (has (add b p) p.1 p.2 = true) := has_add HRB.out.asc
    have hlx : (add b p).length ≤ 4096 := HRX.out.len
    clear hp hz
    go_wp2_with fail
    refine (hA A' n' c' b p w10 R10'.out.row R10'.out.nil_ R10'.out.le R10'.out.max (by omega)).mono ?_
    rw [HAT.out]
    rintro ea wa ⟨va, rfl, Aa, na, ca, rfl, hra, hnila, hnca, hcma, hba⟩
    have HKA : Hid (Kept wa wa.heap.size Aa na ca (add b p)) := ⟨hra, hnila, hnca, hcma⟩
    obtain rfl := hra.len
    have HBA := Lib.hid (HB10.out.below hba)
    have c0' := (hba.cell (p := ⟨bb, ob, none⟩) (by show bb < _; omega)).trans c0
    have c1' := (hba.cell (p := ⟨bb, ob + 1, none⟩) (by show bb < _; omega)).trans c1
    have hbl' : bb < wa.heap.size := by have := hba.size; omega
    clear hba hra hnila hnca hcma c0 c1 HB10 HM10 R10 R10' HP10
    go_wp2_with fail
    obtain ⟨ι, hne, W, i0, h0, hW, hC⟩ := fam_of wa
    have HBW : ∀ i, Hid (Bn w n0 n1 (W i)) := fun i => HBA.out.below (hW i)
    have d0 : ∀ i, (W i).cell? ⟨bb, ob, none⟩ = some (.int .i64 p.1) := fun i => ((hW i).cell (p := ⟨bb, ob, none⟩) hbl').trans c0'
    have d1 : ∀ i, (W i).cell? ⟨bb, ob + 1, none⟩ = some (.int .i64 p.2) := fun i => ((hW i).cell (p := ⟨bb, ob + 1, none⟩) hbl').trans c1'
    have HWK : ∀ i, Hid (Kept (W i) (W i).heap.size Aa (add b p).length ca (add b p)) := fun i => HKA.out.next (hW i)
    refine Mix.wp_region_lex (fun w' => ∃ i, w' = W i) (by kernel_rfl) (by kernel_rfl) ⟨i0, h0⟩ ?_
    rw [h0]
    clear h0 c0' c1'
    repeat (first | (refine Mix.lex_step rfl ?_; intro K hK; go_big_quiet_step (fail); refine Mix.lex_on hK ?_; clear hK K) | (refine Mix.lex_skip rfl ?_; simp only [Act.put, List.setIfInBounds_toArray, List.set_cons_zero, List.set_cons_succ]))
    refine Mix.lex_call (hR Aa _ ca (add b p) (W i0) (HWK i0).out.row (HWK i0).out.nil_ (HWK i0).out.le (HWK i0).out.max (by omega)) rfl rfl rfl (fun _ => rfl) ?_
    rw [decide_eq_true HRX.out]
    rintro er wr ⟨rfl, hbr⟩
    obtain ⟨jr, rfl⟩ := hC _ wr hbr
    refine ⟨_, rfl, ⟨jr, rfl⟩, ?_⟩
    simp only [Act.put, List.setIfInBounds_toArray, List.set_cons_zero, List.set_cons_succ]
    repeat (first | (refine Mix.lex_step rfl ?_; intro K hK; go_big_quiet_step (fail); refine Mix.lex_on hK ?_; clear hK K) | (refine Mix.lex_skip rfl ?_; simp only [Act.put, List.setIfInBounds_toArray, List.set_cons_zero, List.set_cons_succ]))
    refine Mix.lex_call (hH Aa _ ca (add b p) p.1 p.2 (W jr) (HWK jr).out.row (HWK jr).out.nil_ (HWK jr).out.le (HWK jr).out.max HRX.out) rfl rfl rfl (fun _ => rfl) ?_
    rw [HHX.out]
    rintro eh wh ⟨rfl, hbh⟩
    obtain ⟨jh, rfl⟩ := hC _ wh hbh
    refine ⟨_, rfl, ⟨jh, rfl⟩, ?_⟩
    simp only [Act.put, List.setIfInBounds_toArray, List.set_cons_zero, List.set_cons_succ]
    repeat (first | (refine Mix.lex_step rfl ?_; intro K hK; go_big_quiet_step (fail); refine Mix.lex_on hK ?_; clear hK K) | (refine Mix.lex_skip rfl ?_; simp only [Act.put, List.setIfInBounds_toArray, List.set_cons_zero, List.set_cons_succ]))
    refine Mix.lex_nil ?_
    have HBZ := HBW jh
    clear HBW d0 d1 HWK hW hC
    generalize W jh = wz at *
    go_wp2
    go_ret
    exact ⟨rfl, HBZ.out.bel⟩
  | false =>
    cases vb : has b n0 n1 with
    | true =>
      have HV : Hid (has m n0 n1 = true) := by rw [HOR.out, va, vb]; rfl
      go_wp2_with fail
      refine (hH A2 _ c2 m n0 n1 w4 HM4.out.row HM4.out.nil_ HM4.out.le HM4.out.max HRM.out).mono ?_
      rw [HV.out]
      rintro e5 w5 ⟨rfl, hb5⟩
      have HB5 := Lib.hid (HB4.out.below hb5)
      have HM5 := Lib.hid (HM4.out.next hb5)
      have R5 := Lib.hid (R4.out.next hb5)
      have R5' := Lib.hid (R4'.out.next hb5)
      clear hb5 HB4 HM4 R4 R4'
      go_wp2_with fail
      refine (hH A n c a n0 n1 w5 R5.out.row R5.out.nil_ R5.out.le R5.out.max HRA.out).mono ?_
      rw [va]
      rintro e6 w6 ⟨rfl, hb6⟩
      have HB6 := Lib.hid (HB5.out.below hb6)
      have HM6 := Lib.hid (HM5.out.next hb6)
      have R6 := Lib.hid (R5.out.next hb6)
      have R6' := Lib.hid (R5'.out.next hb6)
      clear hb6 HB5 HM5 R5 R5'
      go_wp2_with fail
      refine (hH A' n' c' b n0 n1 w6 R6'.out.row R6'.out.nil_ R6'.out.le R6'.out.max HRB.out).mono ?_
      rw [vb]
      rintro e7 w7 ⟨rfl, hb7⟩
      have HB7 := Lib.hid (HB6.out.below hb7)
      have HM7 := Lib.hid (HM6.out.next hb7)
      have R7 := Lib.hid (R6.out.next hb7)
      have R7' := Lib.hid (R6'.out.next hb7)
      clear hb7 HB6 HM6 R6 R6'
      go_wp2_with fail
      refine (hP A2 _ c2 m n1 w7 HM7.out.row HM7.out.nil_ HM7.out.le HM7.out.max (by omega)).mono ?_
      rintro e8 w8 ⟨vp, rfl, Ap, np, cp, rfl, hrp, hnilp, hncp, hcmp, hb8⟩
      have HP8 : Hid (Kept w8 w8.heap.size Ap np cp (prune m n1)) := ⟨hrp, hnilp, hncp, hcmp⟩
      obtain rfl := hrp.len
      have HB8 := Lib.hid (HB7.out.below hb8)
      have HM8 := Lib.hid (HM7.out.next hb8)
      have R8 := Lib.hid (R7.out.next hb8)
      have R8' := Lib.hid (R7'.out.next hb8)
      clear hb8 HB7 HM7 R7 R7' hrp hnilp hncp hcmp
      go_wp2_with fail
      refine (hR Ap _ cp (prune m n1) w8 HP8.out.row HP8.out.nil_ HP8.out.le HP8.out.max (by omega)).mono ?_
      rw [decide_eq_true HRP.out]
      rintro e9 w9 ⟨rfl, hb9⟩
      have HB9 := Lib.hid (HB8.out.below hb9)
      have HM9 := Lib.hid (HM8.out.next hb9)
      have R9 := Lib.hid (R8.out.next hb9)
      have R9' := Lib.hid (R8'.out.next hb9)
      have HP9 := Lib.hid (HP8.out.next hb9)
      clear hb9 HB8 HM8 R8 R8' HP8
      go_wp2_with fail
      refine (hH Ap _ cp (prune m n1) n0 n1 w9 HP9.out.row HP9.out.nil_ HP9.out.le HP9.out.max HRP.out).mono ?_
      rw [HPR.out, HV.out]
      rintro e10 w10 ⟨rfl, hb10⟩
      have HB10 := Lib.hid (HB9.out.below hb10)
      have HM10 := Lib.hid (HM9.out.next hb10)
      have R10 := Lib.hid (R9.out.next hb10)
      have R10' := Lib.hid (R9'.out.next hb10)
      have HP10 := Lib.hid (HP9.out.next hb10)
      clear hb10 HB9 HM9 R9 R9' HP9
      go_wp2_with fail
      refine (hH A2 _ c2 m n0 n1 w10 HM10.out.row HM10.out.nil_ HM10.out.le HM10.out.max HRM.out).mono ?_
      rw [HV.out]
      rintro e11 w11 ⟨rfl, hb11⟩
      have HB11 := Lib.hid (HB10.out.below hb11)
      have HM11 := Lib.hid (HM10.out.next hb11)
      have R11 := Lib.hid (R10.out.next hb11)
      have R11' := Lib.hid (R10'.out.next hb11)
      have HP11 := Lib.hid (HP10.out.next hb11)
      clear hb11 HB10 HM10 R10 R10' HP10
      by_cases hz : n = 0
      · have hd3 : ((n : Int) == 0) = true := by rw [hz]; rfl
        subst hz
        go_wp2
        go_ret
        exact ⟨rfl, HB11.out.bel⟩
      have hd3 : ((n : Int) == 0) = false := beq_eq_false_iff_ne.2 (by omega)
      have hpos : 0 < n := by omega
      obtain ⟨bb, ob, p, rfl, hbl, hp, c0, c1⟩ := rv_at R11.out.row hpos
      rw [Nat.zero_mul, Nat.add_zero] at c0 c1
      have HKP : Hid (okp p) := HRA.out.ok p (List.mem_of_getElem? hp)
      have hlb : b.length + 1 ≤ 4096 := by have := HL'.out; omega
      have HAT := Lib.hid (addT_yes HRB.out HKP.out hlb)
      have HRX := Lib.hid (rt_add HRB.out HKP.out hlb)
      have HHX : Hid (has (add b p) p.1 p.2 = true) := has_add HRB.out.asc
      have hlx : (add b p).length ≤ 4096 := HRX.out.len
      clear hp hz
      go_wp2_with fail
      refine (hA A' n' c' b p w11 R11'.out.row R11'.out.nil_ R11'.out.le R11'.out.max (by omega)).mono ?_
      rw [HAT.out]
      rintro ea wa ⟨va, rfl, Aa, na, ca, rfl, hra, hnila, hnca, hcma, hba⟩
      have HKA : Hid (Kept wa wa.heap.size Aa na ca (add b p)) := ⟨hra, hnila, hnca, hcma⟩
      obtain rfl := hra.len
      have HBA := Lib.hid (HB11.out.below hba)
      have c0' := (hba.cell (p := ⟨bb, ob, none⟩) (by show bb < _; omega)).trans c0
      have c1' := (hba.cell (p := ⟨bb, ob + 1, none⟩) (by show bb < _; omega)).trans c1
      have hbl' : bb < wa.heap.size := by have := hba.size; omega
      clear hba hra hnila hnca hcma c0 c1 HB11 HM11 R11 R11' HP11
      go_wp2_with fail
      obtain ⟨ι, hne, W, i0, h0, hW, hC⟩ := fam_of wa
      have HBW : ∀ i, Hid (Bn w n0 n1 (W i)) := fun i => HBA.out.below (hW i)
      have d0 : ∀ i, (W i).cell? ⟨bb, ob, none⟩ = some (.int .i64 p.1) := fun i => ((hW i).cell (p := ⟨bb, ob, none⟩) hbl').trans c0'
      have d1 : ∀ i, (W i).cell? ⟨bb, ob + 1, none⟩ = some (.int .i64 p.2) := fun i => ((hW i).cell (p := ⟨bb, ob + 1, none⟩) hbl').trans c1'
      have HWK : ∀ i, Hid (Kept (W i) (W i).heap.size Aa (add b p).length ca (add b p)) := fun i => HKA.out.next (hW i)
      refine Mix.wp_region_lex (fun w' => ∃ i, w' = W i) (by kernel_rfl) (by kernel_rfl) ⟨i0, h0⟩ ?_
      rw [h0]
      clear h0 c0' c1'
      repeat (first | (refine Mix.lex_step rfl ?_; intro K hK; go_big_quiet_step (fail); refine Mix.lex_on hK ?_; clear hK K) | (refine Mix.lex_skip rfl ?_; simp only [Act.put, List.setIfInBounds_toArray, List.set_cons_zero, List.set_cons_succ]))
      refine Mix.lex_call (hR Aa _ ca (add b p) (W i0) (HWK i0).out.row (HWK i0).out.nil_ (HWK i0).out.le (HWK i0).out.max (by omega)) rfl rfl rfl (fun _ => rfl) ?_
      rw [decide_eq_true HRX.out]
      rintro er wr ⟨rfl, hbr⟩
      obtain ⟨jr, rfl⟩ := hC _ wr hbr
      refine ⟨_, rfl, ⟨jr, rfl⟩, ?_⟩
      simp only [Act.put, List.setIfInBounds_toArray, List.set_cons_zero, List.set_cons_succ]
      repeat (first | (refine Mix.lex_step rfl ?_; intro K hK; go_big_quiet_step (fail); refine Mix.lex_on hK ?_; clear hK K) | (refine Mix.lex_skip rfl ?_; simp only [Act.put, List.setIfInBounds_toArray, List.set_cons_zero, List.set_cons_succ]))
      refine Mix.lex_call (hH Aa _ ca (add b p) p.1 p.2 (W jr) (HWK jr).out.row (HWK jr).out.nil_ (HWK jr).out.le (HWK jr).out.max HRX.out) rfl rfl rfl (fun _ => rfl) ?_
      rw [HHX.out]
      rintro eh wh ⟨rfl, hbh⟩
      obtain ⟨jh, rfl⟩ := hC _ wh hbh
      refine ⟨_, rfl, ⟨jh, rfl⟩, ?_⟩
      simp only [Act.put, List.setIfInBounds_toArray, List.set_cons_zero, List.set_cons_succ]
      repeat (first | (refine Mix.lex_step rfl ?_; intro K hK; go_big_quiet_step (fail); refine Mix.lex_on hK ?_; clear hK K) | (refine Mix.lex_skip rfl ?_; simp only [Act.put, List.setIfInBounds_toArray, List.set_cons_zero, List.set_cons_succ]))
      refine Mix.lex_nil ?_
      have HBZ := HBW jh
      clear HBW d0 d1 HWK hW hC
      generalize W jh = wz at *
      go_wp2
      go_ret
      exact ⟨rfl, HBZ.out.bel⟩
    | false =>
      have HV : Hid (has m n0 n1 = false) := by rw [HOR.out, va, vb]; rfl
      go_wp2_with fail
      refine (hH A2 _ c2 m n0 n1 w4 HM4.out.row HM4.out.nil_ HM4.out.le HM4.out.max HRM.out).mono ?_
      rw [HV.out]
      rintro e5 w5 ⟨rfl, hb5⟩
      have HB5 := Lib.hid (HB4.out.below hb5)
      have HM5 := Lib.hid (HM4.out.next hb5)
      have R5 := Lib.hid (R4.out.next hb5)
      have R5' := Lib.hid (R4'.out.next hb5)
      clear hb5 HB4 HM4 R4 R4'
      go_wp2_with fail
      refine (hH A n c a n0 n1 w5 R5.out.row R5.out.nil_ R5.out.le R5.out.max HRA.out).mono ?_
      rw [va]
      rintro e6 w6 ⟨rfl, hb6⟩
      have HB6 := Lib.hid (HB5.out.below hb6)
      have HM6 := Lib.hid (HM5.out.next hb6)
      have R6 := Lib.hid (R5.out.next hb6)
      have R6' := Lib.hid (R5'.out.next hb6)
      clear hb6 HB5 HM5 R5 R5'
      go_wp2_with fail
      refine (hH A' n' c' b n0 n1 w6 R6'.out.row R6'.out.nil_ R6'.out.le R6'.out.max HRB.out).mono ?_
      rw [vb]
      rintro e7 w7 ⟨rfl, hb7⟩
      have HB7 := Lib.hid (HB6.out.below hb7)
      have HM7 := Lib.hid (HM6.out.next hb7)
      have R7 := Lib.hid (R6.out.next hb7)
      have R7' := Lib.hid (R6'.out.next hb7)
      clear hb7 HB6 HM6 R6 R6'
      go_wp2_with fail
      refine (hP A2 _ c2 m n1 w7 HM7.out.row HM7.out.nil_ HM7.out.le HM7.out.max (by omega)).mono ?_
      rintro e8 w8 ⟨vp, rfl, Ap, np, cp, rfl, hrp, hnilp, hncp, hcmp, hb8⟩
      have HP8 : Hid (Kept w8 w8.heap.size Ap np cp (prune m n1)) := ⟨hrp, hnilp, hncp, hcmp⟩
      obtain rfl := hrp.len
      have HB8 := Lib.hid (HB7.out.below hb8)
      have HM8 := Lib.hid (HM7.out.next hb8)
      have R8 := Lib.hid (R7.out.next hb8)
      have R8' := Lib.hid (R7'.out.next hb8)
      clear hb8 HB7 HM7 R7 R7' hrp hnilp hncp hcmp
      go_wp2_with fail
      refine (hR Ap _ cp (prune m n1) w8 HP8.out.row HP8.out.nil_ HP8.out.le HP8.out.max (by omega)).mono ?_
      rw [decide_eq_true HRP.out]
      rintro e9 w9 ⟨rfl, hb9⟩
      have HB9 := Lib.hid (HB8.out.below hb9)
      have HM9 := Lib.hid (HM8.out.next hb9)
      have R9 := Lib.hid (R8.out.next hb9)
      have R9' := Lib.hid (R8'.out.next hb9)
      have HP9 := Lib.hid (HP8.out.next hb9)
      clear hb9 HB8 HM8 R8 R8' HP8
      go_wp2_with fail
      refine (hH Ap _ cp (prune m n1) n0 n1 w9 HP9.out.row HP9.out.nil_ HP9.out.le HP9.out.max HRP.out).mono ?_
      rw [HPR.out, HV.out]
      rintro e10 w10 ⟨rfl, hb10⟩
      have HB10 := Lib.hid (HB9.out.below hb10)
      have HM10 := Lib.hid (HM9.out.next hb10)
      have R10 := Lib.hid (R9.out.next hb10)
      have R10' := Lib.hid (R9'.out.next hb10)
      have HP10 := Lib.hid (HP9.out.next hb10)
      clear hb10 HB9 HM9 R9 R9' HP9
      go_wp2_with fail
      refine (hH A2 _ c2 m n0 n1 w10 HM10.out.row HM10.out.nil_ HM10.out.le HM10.out.max HRM.out).mono ?_
      rw [HV.out]
      rintro e11 w11 ⟨rfl, hb11⟩
      have HB11 := Lib.hid (HB10.out.below hb11)
      have HM11 := Lib.hid (HM10.out.next hb11)
      have R11 := Lib.hid (R10.out.next hb11)
      have R11' := Lib.hid (R10'.out.next hb11)
      have HP11 := Lib.hid (HP10.out.next hb11)
      clear hb11 HB10 HM10 R10 R10' HP10
      by_cases hz : n = 0
      · have hd3 : ((n : Int) == 0) = true := by rw [hz]; rfl
        subst hz
        go_wp2
        go_ret
        exact ⟨rfl, HB11.out.bel⟩
      have hd3 : ((n : Int) == 0) = false := beq_eq_false_iff_ne.2 (by omega)
      have hpos : 0 < n := by omega
      obtain ⟨bb, ob, p, rfl, hbl, hp, c0, c1⟩ := rv_at R11.out.row hpos
      rw [Nat.zero_mul, Nat.add_zero] at c0 c1
      have HKP : Hid (okp p) := HRA.out.ok p (List.mem_of_getElem? hp)
      have hlb : b.length + 1 ≤ 4096 := by have := HL'.out; omega
      have HAT := Lib.hid (addT_yes HRB.out HKP.out hlb)
      have HRX := Lib.hid (rt_add HRB.out HKP.out hlb)
      have HHX : Hid (has (add b p) p.1 p.2 = true) := has_add HRB.out.asc
      have hlx : (add b p).length ≤ 4096 := HRX.out.len
      clear hp hz
      go_wp2_with fail
      refine (hA A' n' c' b p w11 R11'.out.row R11'.out.nil_ R11'.out.le R11'.out.max (by omega)).mono ?_
      rw [HAT.out]
      rintro ea wa ⟨va, rfl, Aa, na, ca, rfl, hra, hnila, hnca, hcma, hba⟩
      have HKA : Hid (Kept wa wa.heap.size Aa na ca (add b p)) := ⟨hra, hnila, hnca, hcma⟩
      obtain rfl := hra.len
      have HBA := Lib.hid (HB11.out.below hba)
      have c0' := (hba.cell (p := ⟨bb, ob, none⟩) (by show bb < _; omega)).trans c0
      have c1' := (hba.cell (p := ⟨bb, ob + 1, none⟩) (by show bb < _; omega)).trans c1
      have hbl' : bb < wa.heap.size := by have := hba.size; omega
      clear hba hra hnila hnca hcma c0 c1 HB11 HM11 R11 R11' HP11
      go_wp2_with fail
      obtain ⟨ι, hne, W, i0, h0, hW, hC⟩ := fam_of wa
      have HBW : ∀ i, Hid (Bn w n0 n1 (W i)) := fun i => HBA.out.below (hW i)
      have d0 : ∀ i, (W i).cell? ⟨bb, ob, none⟩ = some (.int .i64 p.1) := fun i => ((hW i).cell (p := ⟨bb, ob, none⟩) hbl').trans c0'
      have d1 : ∀ i, (W i).cell? ⟨bb, ob + 1, none⟩ = some (.int .i64 p.2) := fun i => ((hW i).cell (p := ⟨bb, ob + 1, none⟩) hbl').trans c1'
      have HWK : ∀ i, Hid (Kept (W i) (W i).heap.size Aa (add b p).length ca (add b p)) := fun i => HKA.out.next (hW i)
      refine Mix.wp_region_lex (fun w' => ∃ i, w' = W i) (by kernel_rfl) (by kernel_rfl) ⟨i0, h0⟩ ?_
      rw [h0]
      clear h0 c0' c1'
      repeat (first | (refine Mix.lex_step rfl ?_; intro K hK; go_big_quiet_step (fail); refine Mix.lex_on hK ?_; clear hK K) | (refine Mix.lex_skip rfl ?_; simp only [Act.put, List.setIfInBounds_toArray, List.set_cons_zero, List.set_cons_succ]))
      refine Mix.lex_call (hR Aa _ ca (add b p) (W i0) (HWK i0).out.row (HWK i0).out.nil_ (HWK i0).out.le (HWK i0).out.max (by omega)) rfl rfl rfl (fun _ => rfl) ?_
      rw [decide_eq_true HRX.out]
      rintro er wr ⟨rfl, hbr⟩
      obtain ⟨jr, rfl⟩ := hC _ wr hbr
      refine ⟨_, rfl, ⟨jr, rfl⟩, ?_⟩
      simp only [Act.put, List.setIfInBounds_toArray, List.set_cons_zero, List.set_cons_succ]
      repeat (first | (refine Mix.lex_step rfl ?_; intro K hK; go_big_quiet_step (fail); refine Mix.lex_on hK ?_; clear hK K) | (refine Mix.lex_skip rfl ?_; simp only [Act.put, List.setIfInBounds_toArray, List.set_cons_zero, List.set_cons_succ]))
      refine Mix.lex_call (hH Aa _ ca (add b p) p.1 p.2 (W jr) (HWK jr).out.row (HWK jr).out.nil_ (HWK jr).out.le (HWK jr).out.max HRX.out) rfl rfl rfl (fun _ => rfl) ?_
      rw [HHX.out]
      rintro eh wh ⟨rfl, hbh⟩
      obtain ⟨jh, rfl⟩ := hC _ wh hbh
      refine ⟨_, rfl, ⟨jh, rfl⟩, ?_⟩
      simp only [Act.put, List.setIfInBounds_toArray, List.set_cons_zero, List.set_cons_succ]
      repeat (first | (refine Mix.lex_step rfl ?_; intro K hK; go_big_quiet_step (fail); refine Mix.lex_on hK ?_; clear hK K) | (refine Mix.lex_skip rfl ?_; simp only [Act.put, List.setIfInBounds_toArray, List.set_cons_zero, List.set_cons_succ]))
      refine Mix.lex_nil ?_
      have HBZ := HBW jh
      clear HBW d0 d1 HWK hW hC
      generalize W jh = wz at *
      go_wp2
      go_ret
      exact ⟨rfl, HBZ.out.bel⟩
end Go.Proofs.Ytfmmpmpafgbidaa.Rv
