/- Layer 13 (geo): the example of the laws; GeoTells and GeoRings as walks, out of what the program's functions must do. -/
import Derived.Test.YtngjgdikooaknaaGeT
namespace Go.Proofs.Ytngjgdikooaknaa.Ge
open Go.RowKit Rec

theorem ringT_yes {r : Int} {k : Nat} (h : r = k) (hk : k ≤ 4096) : ringT r = (ring k, 0) := by
  subst h
  unfold ringT
  rw [if_neg (by omega), Int.toNat_natCast]
theorem ringT_no {r : Int} (h : r < 0 ∨ 4096 < r) : ringT r = ([], 3) := by unfold ringT; rw [if_pos h]
theorem root_17 {x : Int} (h : IsRoot 17 x) : x = 4 := root_one h (.inr ⟨by omega, by omega, by omega, by omega⟩)
theorem sq_b64 (a b : Int × Int) : B64 (sq a.1 a.2 b.1 b.2) := by
  unfold sq
  split
  · rename_i h
    have dx := diff_in h.1.1 h.2.1
    have dy := diff_in h.1.2 h.2.2
    have qx := mul_in dx dx
    have qy := mul_in dy dy
    constructor <;> omega
  · constructor <;> omega

set_option maxHeartbeats 1600000 in
set_option maxRecDepth 100000 in
theorem awake_any (k : Oks) (w : World) : Calls Try.prog 6 #[] w fun e w' => e = .returned (.bool true) ∧ Below w.heap.size w w' := by
  have P1 := Lib.hid (k.ring 1 w ⟨by omega, by omega⟩)
  have HE := Lib.hid (ringT_yes (r := 1) (k := 1) rfl (by omega))
  go_enter Try.func6, Try.ntmps6
  go_wp2_with fail
  refine P1.out.mono ?_
  rw [HE.out]
  rintro e1 w1 ⟨v1, rfl, A1, n1, c1, rfl, hr1, hnil1, hnc1, hcm1, hb1⟩
  have hl1 : n1 = 8 := hr1.len.symm
  subst hl1
  obtain ⟨b, o, p, rfl, _, hp, c0, c0'⟩ := two_at hr1 (j := 0) (by omega)
  obtain ⟨b', o', q, e2, _, hq, c7, c7'⟩ := two_at hr1 (j := 7) (by omega)
  injection e2 with e2
  injection e2 with e2 e3
  subst e2 e3
  have ep : p = (1, 0) := (Option.some.inj hp).symm
  have eq_ : q = (1, -1) := (Option.some.inj hq).symm
  subst ep eq_
  have HB1 := Lib.hid hb1
  simp only at c0 c0' c7 c7'
  rw [Nat.zero_mul, Nat.add_zero] at c0 c0'
  have c7a : w1.cell? ⟨b, o + 14, none⟩ = some (.int .i64 1) := c7
  have c7b : w1.cell? ⟨b, o + 15, none⟩ = some (.int .i64 (-1)) := c7'
  clear hr1 hnil1 hcm1 hb1 P1 hp hq
  go_wp2_with fail
  refine (k.root 17 w1 ⟨by omega, by omega⟩).mono ?_
  rintro e2 w2 ⟨x, rfl, hx, hb2⟩
  obtain rfl := root_17 hx
  have HB2 := Lib.hid (HB1.out.trans (hb2.mono HB1.out.size))
  clear hb2
  go_wp2
  go_ret
  exact ⟨rfl, HB2.out⟩

/-- Behind the law's boxes: three places in three blocks. -/
structure Bx (w0 : World) (a b c : Int × Int) (w' : World) : Prop where
  ab : w'.heap[w0.heap.size]? = some (.cells #[.int .i64 a.1, .int .i64 a.2] 23 (0, 0))
  bb : w'.heap[w0.heap.size + 1]? = some (.cells #[.int .i64 b.1, .int .i64 b.2] 23 (0, 0))
  cb : w'.heap[w0.heap.size + 2]? = some (.cells #[.int .i64 c.1, .int .i64 c.2] 23 (0, 0))
  bel : Below w0.heap.size w0 w'
theorem Bx.below {w0 w1 w2 : World} {a b c : Int × Int} (h : Bx w0 a b c w1) (hb : Below w1.heap.size w1 w2) : Bx w0 a b c w2 :=
  ⟨(hb.block _ (Array.getElem?_eq_some_iff.1 h.ab).1).trans h.ab, (hb.block _ (Array.getElem?_eq_some_iff.1 h.bb).1).trans h.bb, (hb.block _ (Array.getElem?_eq_some_iff.1 h.cb).1).trans h.cb, h.bel.trans (hb.mono h.bel.size)⟩
theorem alloc_at {w : World} {g : Nat} {o o' : Obj} (h : w.heap[g]? = some o) : (w.alloc o').heap[g]? = some o := by
  have hlt := (Array.getElem?_eq_some_iff.1 h).1
  exact (((Below.refl w.heap.size w).alloc (Nat.le_refl _) o').block g hlt).trans h

set_option maxHeartbeats 3200000 in
set_option maxRecDepth 100000 in
theorem tells_walk (k : Oks) (a b c : Int × Int) (w : World) (ha : B64p a) (hb : B64p b) (hc : B64p c) :
    Calls Try.prog 3 #[.agg #[.int .i64 a.1, .int .i64 a.2], .agg #[.int .i64 b.1, .int .i64 b.2], .agg #[.int .i64 c.1, .int .i64 c.2]] w fun e w' => e = .returned (.bool true) ∧ Below w.heap.size w w' := by
  have hX : Bx w a b c (((w.alloc (.cells #[.int .i64 a.1, .int .i64 a.2] 23)).alloc (.cells #[.int .i64 b.1, .int .i64 b.2] 23)).alloc (.cells #[.int .i64 c.1, .int .i64 c.2] 23)) := by
    refine ⟨alloc_at (alloc_at (heap_alloc_new w _)), alloc_at ?_, ?_, (((Below.refl _ _).alloc (Nat.le_refl _) _).alloc (by simp) _).alloc (by simp; omega) _⟩
    · have := heap_alloc_new (w.alloc (.cells #[.int .i64 a.1, .int .i64 a.2] 23)) (.cells #[.int .i64 b.1, .int .i64 b.2] 23)
      rwa [World.size_alloc] at this
    · have := heap_alloc_new ((w.alloc (.cells #[.int .i64 a.1, .int .i64 a.2] 23)).alloc (.cells #[.int .i64 b.1, .int .i64 b.2] 23)) (.cells #[.int .i64 c.1, .int .i64 c.2] 23)
      rwa [World.size_alloc, World.size_alloc] at this
  have HX := Lib.hid hX
  have HA := Lib.hid ha
  have HB := Lib.hid hb
  have HC := Lib.hid hc
  clear hX ha hb hc
  go_enter Try.func3, Try.ntmps3
  go_wp2_with fail
  refine (awake_any k _).mono ?_
  rintro e1 w1 ⟨rfl, hb1⟩
  have HX1 := Lib.hid (HX.out.below hb1)
  clear hb1 HX
  have f1 : (decide (may a.1 b.2) == decide (may a.1 b.2)) = true := beq_self_eq_true _
  have f2 : (sq a.1 a.2 b.1 b.2 == sq a.1 a.2 b.1 b.2) = true := beq_self_eq_true _
  have f3 : (side a.1 a.2 b.1 b.2 c.1 c.2 == side a.1 a.2 b.1 b.2 c.1 c.2) = true := beq_self_eq_true _
  go_wp2_with fail
  obtain ⟨ι, hne, W, i0, h0, hW, hC⟩ := fam_of w1
  have HXW : ∀ i, Hid (Bx w a b c (W i)) := fun i => HX1.out.below (hW i)
  have da0 : ∀ i, (W i).cell? ⟨w.heap.size, 0, none⟩ = some (.int .i64 a.1) := fun i => cell_of_blk (HXW i).out.ab rfl
  have da1 : ∀ i, (W i).cell? ⟨w.heap.size, 1, none⟩ = some (.int .i64 a.2) := fun i => cell_of_blk (HXW i).out.ab rfl
  have db0 : ∀ i, (W i).cell? ⟨w.heap.size + 1, 0, none⟩ = some (.int .i64 b.1) := fun i => cell_of_blk (HXW i).out.bb rfl
  have db1 : ∀ i, (W i).cell? ⟨w.heap.size + 1, 1, none⟩ = some (.int .i64 b.2) := fun i => cell_of_blk (HXW i).out.bb rfl
  have dc0 : ∀ i, (W i).cell? ⟨w.heap.size + 2, 0, none⟩ = some (.int .i64 c.1) := fun i => cell_of_blk (HXW i).out.cb rfl
  have dc1 : ∀ i, (W i).cell? ⟨w.heap.size + 2, 1, none⟩ = some (.int .i64 c.2) := fun i => cell_of_blk (HXW i).out.cb rfl
  refine Mix.wp_region_lex (fun w' => ∃ i, w' = W i) (by kernel_rfl) (by kernel_rfl) ⟨i0, h0⟩ ?_
  rw [h0]
  clear h0
  repeat (first | (refine Mix.lex_step rfl ?_; intro K hK; go_big_quiet_step (fail); refine Mix.lex_on hK ?_; clear hK K) | (refine Mix.lex_skip rfl ?_; simp only [Act.put, List.setIfInBounds_toArray, List.set_cons_zero, List.set_cons_succ]))
  refine Mix.lex_call (k.may a.1 b.2 (W i0) HA.out.1 HB.out.2) rfl rfl rfl (fun _ => rfl) ?_
  rintro e2 w2 ⟨rfl, hb2⟩
  obtain ⟨j2, rfl⟩ := hC _ w2 hb2
  clear hb2
  refine ⟨_, rfl, ⟨j2, rfl⟩, ?_⟩
  simp only [Act.put, List.setIfInBounds_toArray, List.set_cons_zero, List.set_cons_succ]
  repeat (first | (refine Mix.lex_step rfl ?_; intro K hK; go_big_quiet_step (fail); refine Mix.lex_on hK ?_; clear hK K) | (refine Mix.lex_skip rfl ?_; simp only [Act.put, List.setIfInBounds_toArray, List.set_cons_zero, List.set_cons_succ]))
  refine Mix.lex_call (refmay_any a.1 b.2 (W j2)) rfl rfl rfl (fun _ => rfl) ?_
  rintro e3 w3 ⟨rfl, rfl⟩
  refine ⟨_, rfl, ⟨j2, rfl⟩, ?_⟩
  simp only [Act.put, List.setIfInBounds_toArray, List.set_cons_zero, List.set_cons_succ]
  repeat (first | (refine Mix.lex_step rfl ?_; intro K hK; go_big_quiet_step (fail); refine Mix.lex_on hK ?_; clear hK K) | (refine Mix.lex_skip rfl ?_; simp only [Act.put, List.setIfInBounds_toArray, List.set_cons_zero, List.set_cons_succ]))
  refine Mix.lex_call (k.square a b (W j2) HA.out HB.out) rfl rfl rfl (fun _ => rfl) ?_
  rintro e4 w4 ⟨rfl, hb4⟩
  obtain ⟨j4, rfl⟩ := hC _ w4 hb4
  clear hb4
  refine ⟨_, rfl, ⟨j4, rfl⟩, ?_⟩
  simp only [Act.put, List.setIfInBounds_toArray, List.set_cons_zero, List.set_cons_succ]
  repeat (first | (refine Mix.lex_step rfl ?_; intro K hK; go_big_quiet_step (fail); refine Mix.lex_on hK ?_; clear hK K) | (refine Mix.lex_skip rfl ?_; simp only [Act.put, List.setIfInBounds_toArray, List.set_cons_zero, List.set_cons_succ]))
  refine Mix.lex_call (refsquare_any a b (W j4)) rfl rfl rfl (fun _ => rfl) ?_
  rintro e5 w5 ⟨rfl, hb5⟩
  obtain ⟨j5, rfl⟩ := hC _ w5 hb5
  clear hb5
  refine ⟨_, rfl, ⟨j5, rfl⟩, ?_⟩
  simp only [Act.put, List.setIfInBounds_toArray, List.set_cons_zero, List.set_cons_succ]
  repeat (first | (refine Mix.lex_step rfl ?_; intro K hK; go_big_quiet_step (fail); refine Mix.lex_on hK ?_; clear hK K) | (refine Mix.lex_skip rfl ?_; simp only [Act.put, List.setIfInBounds_toArray, List.set_cons_zero, List.set_cons_succ]))
  refine Mix.lex_call (k.side a b c (W j5) HA.out HB.out HC.out) rfl rfl rfl (fun _ => rfl) ?_
  rintro e6 w6 ⟨rfl, hb6⟩
  obtain ⟨j6, rfl⟩ := hC _ w6 hb6
  clear hb6
  refine ⟨_, rfl, ⟨j6, rfl⟩, ?_⟩
  simp only [Act.put, List.setIfInBounds_toArray, List.set_cons_zero, List.set_cons_succ]
  repeat (first | (refine Mix.lex_step rfl ?_; intro K hK; go_big_quiet_step (fail); refine Mix.lex_on hK ?_; clear hK K) | (refine Mix.lex_skip rfl ?_; simp only [Act.put, List.setIfInBounds_toArray, List.set_cons_zero, List.set_cons_succ]))
  refine Mix.lex_call (refside_any a b c (W j6)) rfl rfl rfl (fun _ => rfl) ?_
  rintro e7 w7 ⟨rfl, hb7⟩
  obtain ⟨j7, rfl⟩ := hC _ w7 hb7
  clear hb7
  refine ⟨_, rfl, ⟨j7, rfl⟩, ?_⟩
  simp only [Act.put, List.setIfInBounds_toArray, List.set_cons_zero, List.set_cons_succ]
  repeat (first | (refine Mix.lex_step rfl ?_; intro K hK; go_big_quiet_step (fail); refine Mix.lex_on hK ?_; clear hK K) | (refine Mix.lex_skip rfl ?_; simp only [Act.put, List.setIfInBounds_toArray, List.set_cons_zero, List.set_cons_succ]))
  refine Mix.lex_call (k.root a.1 (W j7) HA.out.1) rfl rfl rfl (fun _ => rfl) ?_
  rintro e8 w8 ⟨x1, rfl, hx1, hb8⟩
  have HX8 := Lib.hid hx1
  clear hx1
  obtain ⟨j8, rfl⟩ := hC _ w8 hb8
  clear hb8
  refine ⟨_, rfl, ⟨j8, rfl⟩, ?_⟩
  simp only [Act.put, List.setIfInBounds_toArray, List.set_cons_zero, List.set_cons_succ]
  repeat (first | (refine Mix.lex_step rfl ?_; intro K hK; go_big_quiet_step (fail); refine Mix.lex_on hK ?_; clear hK K) | (refine Mix.lex_skip rfl ?_; simp only [Act.put, List.setIfInBounds_toArray, List.set_cons_zero, List.set_cons_succ]))
  refine Mix.lex_call (refroot_any a.1 (W j8) HA.out.1) rfl rfl rfl (fun _ => rfl) ?_
  rintro e9 w9 ⟨⟨x2, rfl, hx2⟩, rfl⟩
  obtain rfl := root_one HX8.out hx2
  clear hx2
  have f4 : (x1 == x1) = true := beq_self_eq_true _
  refine ⟨_, rfl, ⟨j8, rfl⟩, ?_⟩
  simp only [Act.put, List.setIfInBounds_toArray, List.set_cons_zero, List.set_cons_succ]
  repeat (first | (refine Mix.lex_step rfl ?_; intro K hK; go_big_quiet_step (fail); refine Mix.lex_on hK ?_; clear hK K) | (refine Mix.lex_skip rfl ?_; simp only [Act.put, List.setIfInBounds_toArray, List.set_cons_zero, List.set_cons_succ]))
  refine Mix.lex_call (refsquare_any b c (W j8)) rfl rfl rfl (fun _ => rfl) ?_
  rintro e10 w10 ⟨rfl, hb10⟩
  obtain ⟨j10, rfl⟩ := hC _ w10 hb10
  clear hb10
  refine ⟨_, rfl, ⟨j10, rfl⟩, ?_⟩
  simp only [Act.put, List.setIfInBounds_toArray, List.set_cons_zero, List.set_cons_succ]
  repeat (first | (refine Mix.lex_step rfl ?_; intro K hK; go_big_quiet_step (fail); refine Mix.lex_on hK ?_; clear hK K) | (refine Mix.lex_skip rfl ?_; simp only [Act.put, List.setIfInBounds_toArray, List.set_cons_zero, List.set_cons_succ]))
  refine Mix.lex_call (k.root (sq b.1 b.2 c.1 c.2) (W j10) (sq_b64 b c)) rfl rfl rfl (fun _ => rfl) ?_
  rintro e11 w11 ⟨x3, rfl, hx3, hb11⟩
  have HX9 := Lib.hid hx3
  clear hx3
  obtain ⟨j11, rfl⟩ := hC _ w11 hb11
  clear hb11
  refine ⟨_, rfl, ⟨j11, rfl⟩, ?_⟩
  simp only [Act.put, List.setIfInBounds_toArray, List.set_cons_zero, List.set_cons_succ]
  repeat (first | (refine Mix.lex_step rfl ?_; intro K hK; go_big_quiet_step (fail); refine Mix.lex_on hK ?_; clear hK K) | (refine Mix.lex_skip rfl ?_; simp only [Act.put, List.setIfInBounds_toArray, List.set_cons_zero, List.set_cons_succ]))
  refine Mix.lex_call (refsquare_any b c (W j11)) rfl rfl rfl (fun _ => rfl) ?_
  rintro e12 w12 ⟨rfl, hb12⟩
  obtain ⟨j12, rfl⟩ := hC _ w12 hb12
  clear hb12
  refine ⟨_, rfl, ⟨j12, rfl⟩, ?_⟩
  simp only [Act.put, List.setIfInBounds_toArray, List.set_cons_zero, List.set_cons_succ]
  repeat (first | (refine Mix.lex_step rfl ?_; intro K hK; go_big_quiet_step (fail); refine Mix.lex_on hK ?_; clear hK K) | (refine Mix.lex_skip rfl ?_; simp only [Act.put, List.setIfInBounds_toArray, List.set_cons_zero, List.set_cons_succ]))
  refine Mix.lex_call (refroot_any (sq b.1 b.2 c.1 c.2) (W j12) (sq_b64 b c)) rfl rfl rfl (fun _ => rfl) ?_
  rintro e13 w13 ⟨⟨x4, rfl, hx4⟩, rfl⟩
  obtain rfl := root_one HX9.out hx4
  clear hx4
  have f5 : (x3 == x3) = true := beq_self_eq_true _
  refine ⟨_, rfl, ⟨j12, rfl⟩, ?_⟩
  simp only [Act.put, List.setIfInBounds_toArray, List.set_cons_zero, List.set_cons_succ]
  repeat (first | (refine Mix.lex_step rfl ?_; intro K hK; go_big_quiet_step (fail); refine Mix.lex_on hK ?_; clear hK K) | (refine Mix.lex_skip rfl ?_; simp only [Act.put, List.setIfInBounds_toArray, List.set_cons_zero, List.set_cons_succ]))
  refine Mix.lex_nil ?_
  have HXZ := HXW j12
  clear HXW da0 da1 db0 db1 dc0 dc1 hW hC
  generalize W j12 = wz at *
  go_wp2
  go_ret
  exact ⟨rfl, HXZ.out.bel⟩

set_option maxHeartbeats 1600000 in
set_option maxRecDepth 100000 in
theorem rings_walk (k : Oks) (r : Int) (w : World) (hr : B64 r) :
    Calls Try.prog 4 #[.int .i64 r] w fun e w' => e = .returned (.bool true) ∧ Below w.heap.size w w' := by
  have HR := Lib.hid hr
  clear hr
  go_enter Try.func4, Try.ntmps4
  go_wp2_with fail
  refine (awake_any k _).mono ?_
  rintro e1 w1 ⟨rfl, hb1⟩
  have HB1 := Lib.hid hb1
  clear hb1
  go_wp2_with fail
  refine (k.ring r w1 HR.out).mono ?_
  rintro e2 w2 ⟨v2, rfl, A2, n2, c2, rfl, hr2, -, hnc2, -, hb2⟩
  obtain rfl := hr2.len
  have HR2 := Lib.hid hr2
  have HB2 := Lib.hid (HB1.out.trans (hb2.mono HB1.out.size))
  clear hr2 hb2
  by_cases h0 : r < 0
  · have HT := Lib.hid (ringT_no (.inl h0))
    rw [HT.out] at HR2 ⊢
    have e0 : decide (r < 0) = true := decide_eq_true h0
    go_wp2
    go_ret
    exact ⟨rfl, HB2.out⟩
  have e0 : decide (r < 0) = false := decide_eq_false h0
  by_cases h1 : 4096 < r
  · have HT := Lib.hid (ringT_no (.inr h1))
    rw [HT.out] at HR2 ⊢
    have e1 : decide (4096 < r) = true := decide_eq_true h1
    go_wp2
    go_ret
    exact ⟨rfl, HB2.out⟩
  have e1 : decide (4096 < r) = false := decide_eq_false h1
  obtain ⟨m, rfl⟩ : ∃ m : Nat, r = (m : Int) := ⟨r.toNat, by omega⟩
  have hm : m ≤ 4096 := by omega
  have HT := Lib.hid (ringT_yes (r := (m : Int)) rfl hm)
  rw [HT.out] at HR2 hnc2 ⊢
  have hlen : (ring m).length ≤ 40000 := by
    rcases Nat.eq_zero_or_pos m with h | h
    · subst h; show 1 ≤ 40000; omega
    · rw [ring_len h]; omega
  clear HT
  go_wp2_with fail
  refine (refring_any m w2 hm).mono ?_
  rintro e3 w3 ⟨v3, rfl, A3, n3, c3, rfl, hr3, -, hnc3, -, hb3⟩
  obtain rfl := hr3.len
  have HR3 := Lib.hid hr3
  have HR2' := Lib.hid (HR2.out.below hb3)
  have HB3 := Lib.hid (HB2.out.trans (hb3.mono HB2.out.size))
  clear hr3 hb3 HR2 HB2
  generalize ring m = l at *
  obtain ⟨N, hN⟩ : ∃ N, l.length = N := ⟨_, rfl⟩
  rw [hN] at HR2' HR3 hnc2 hnc3 hlen ⊢
  clear hN
  have e2 : ((N : Int) != (N : Int)) = false := bne_self_eq_false _
  go_wp2
  go_loopw [40] (fun i wr => ∃ j q : Nat, j ≤ N ∧ i = .int .i64 (j : Int) ∧ Hid (wr = w3.drewN q)) (fun i _ => N - (intOf i).toNat)
  case atStart => exact ⟨0, 0, Nat.zero_le _, rfl, rfl⟩
  case round =>
    obtain ⟨j, q, hj, rfl, hw⟩ := hrel
    obtain rfl := hw.out
    clear hw
    by_cases hlt : j < N
    · obtain ⟨b, o, s, rfl, _, hs, c0, c1⟩ := two_at HR2'.out hlt
      obtain ⟨b', o', s', rfl, _, hs', d0, d1⟩ := two_at HR3.out hlt
      rw [hs] at hs'
      injection hs' with hs'
      subst hs'
      clear hs
      go_wp2_with fail
      go_quiet (fail)
      go_wp2
      go_roundw
      case rel => exact ⟨j + 1, _, by omega, by go_num, by unfold Hid; rfl⟩
      case measure => simp [intOf]; omega
    · go_wp2
      go_ret
      exact ⟨rfl, below_drewN HB3.out _⟩
end Go.Proofs.Ytngjgdikooaknaa.Ge
