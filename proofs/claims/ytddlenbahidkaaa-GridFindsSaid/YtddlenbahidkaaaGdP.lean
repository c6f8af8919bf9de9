/- Layer 14 (grid), the landed program: a stop with its square; the order of points; cmp.Or of two. -/
import Derived.Test.YtddlenbahidkaaaGdT
import Derived.Test.YtddlenbahidkaaaGrw
namespace Go.Proofs.Ytddlenbahidkaaa.Gd
open Go.RowKit Rec Ints Ge ResO

/-- Which one comes first, as a number. -/
def cmpi (u v : Int) : Int := if u < v then -1 else if v < u then 1 else 0
def cf (p q : C) : Int := if cmpi p.2 q.2 = 0 then cmpi p.1 q.1 else cmpi p.2 q.2
theorem cf_lt (p q : C) : cf p q < 0 ↔ (p.2 < q.2 ∨ (p.2 = q.2 ∧ p.1 < q.1)) := by
  unfold cf cmpi
  repeat (split <;> try omega)

set_option maxHeartbeats 800000 in
set_option maxRecDepth 100000 in
theorem or_any (g c : Nat) (u v : Int) (w : World) (h0 : w.cell? ⟨g, 0, none⟩ = some (.int .i64 u)) (h1 : w.cell? ⟨g, 1, none⟩ = some (.int .i64 v)) :
    Calls Try.prog 29 #[.slice (some ⟨g, 0, none⟩) 2 c] w fun e w' => e = .returned (.int .i64 (if u = 0 then v else u)) ∧ w' = w := by
  by_cases hu : u = 0
  · subst hu
    rw [if_pos rfl]
    by_cases hv : v = 0
    · subst hv
      go_enter Try.func29, Try.ntmps29
      go_wp2
      refine wp_loop_rounds 3 ?_
      rw [rounds_succ]
      go_wp2
      rw [rounds_succ]
      go_wp2
      rw [rounds_succ]
      go_wp2
      go_ret
      exact ⟨rfl, rfl⟩
    · have hv' : (v == 0) = false := beq_eq_false_iff_ne.2 hv
      go_enter Try.func29, Try.ntmps29
      go_wp2
      refine wp_loop_rounds 3 ?_
      rw [rounds_succ]
      go_wp2
      rw [rounds_succ]
      go_wp2
      go_ret
      exact ⟨rfl, rfl⟩
  · rw [if_neg hu]
    have hu' : (u == 0) = false := beq_eq_false_iff_ne.2 hu
    go_enter Try.func29, Try.ntmps29
    go_wp2
    refine wp_loop_rounds 3 ?_
    rw [rounds_succ]
    go_wp2
    go_ret
    exact ⟨rfl, rfl⟩

theorem build_two (u v : Int) (W : World) : (Instr.buildSlice 34 2 #[(0, .int .i64 u), (1, .int .i64 v)]).run Try.prog W = .ok (.slice (some ⟨W.heap.size, 0, none⟩) 2 2) (W.alloc (.cells #[.int .i64 u, .int .i64 v] 3)) := by kernel_rfl

set_option maxHeartbeats 1600000 in
set_option maxRecDepth 100000 in
theorem order_any (p q : C) (w : World) : Calls Try.prog 24 #[.agg #[.int .i64 p.1, .int .i64 p.2], .agg #[.int .i64 q.1, .int .i64 q.2]] w fun e w' => e = .returned (.int .i64 (cf p q)) ∧ Gw w w' := by
  obtain ⟨p1, p2⟩ := p
  obtain ⟨q1, q2⟩ := q
  obtain ⟨u, hu⟩ : ∃ u, cmpi p2 q2 = u := ⟨_, rfl⟩
  obtain ⟨v, hv⟩ : ∃ v, cmpi p1 q1 = v := ⟨_, rfl⟩
  obtain ⟨r, hr⟩ : ∃ r, cf (p1, p2) (q1, q2) = r := ⟨_, rfl⟩
  have HC1 : Hid (∀ W, Calls Try.prog 30 #[.int .i64 p2, .int .i64 q2] W fun e w' => e = .returned (.int .i64 u) ∧ w' = W) := fun W => by rw [← hu]; exact compare_any p2 q2 W
  have HC2 : Hid (∀ W, Calls Try.prog 30 #[.int .i64 p1, .int .i64 q1] W fun e w' => e = .returned (.int .i64 v) ∧ w' = W) := fun W => by rw [← hv]; exact compare_any p1 q1 W
  have HRR : Hid ((if u = 0 then v else u) = r) := by rw [← hr, ← hu, ← hv]; rfl
  rw [hr]
  clear hu hv hr
  simp only
  have HG := Lib.hid ((Gw.alloc w (.cells #[.int .i64 p1, .int .i64 p2] 57)).trans (Gw.alloc _ (.cells #[.int .i64 q1, .int .i64 q2] 57)))
  have H1 := Lib.hid ((heap_alloc_new w (.cells #[.int .i64 p1, .int .i64 p2] 57)))
  have H2 := Lib.hid ((heap_alloc_new (w.alloc (.cells #[.int .i64 p1, .int .i64 p2] 57)) (.cells #[.int .i64 q1, .int .i64 q2] 57)))
  have H3 := Lib.hid (((Below.refl (w.alloc (.cells #[.int .i64 p1, .int .i64 p2] 57)).heap.size _).alloc (Nat.le_refl _) (.cells #[.int .i64 q1, .int .i64 q2] 57)))
  have hsz : (w.alloc (.cells #[.int .i64 p1, .int .i64 p2] 57)).heap.size = w.heap.size + 1 := by simp
  go_enter Try.func24, Try.ntmps24
  go_wp2
  obtain ⟨g1, hg1⟩ : ∃ g1, w.heap.size = g1 := ⟨_, rfl⟩
  rw [hg1] at hsz
  rw [hsz] at H2 H3
  rw [hg1] at H1
  rw [hg1]
  generalize w.alloc (.cells #[.int .i64 p1, .int .i64 p2] 57) = wa at *
  generalize wa.alloc (.cells #[.int .i64 q1, .int .i64 q2] 57) = wb at *
  have K1 : wb.heap[g1]? = some (.cells #[.int .i64 p1, .int .i64 p2] 57) := (H3.out.block g1 (by omega)).trans H1.out
  have K2 := H2.out
  have l2 : g1 + 1 < wb.heap.size := (Array.getElem?_eq_some_iff.1 K2).1
  clear H1 H2 H3 hsz
  obtain ⟨ι, hne, W, i0, h0, hW, hC⟩ := fam_gw wb
  have c1 : ∀ i, (W i).cell? ⟨g1, 0, none⟩ = some (.int .i64 p1) := fun i => cell_of_blk (((hW i).below.block _ (by omega)).trans K1) rfl
  have c2 : ∀ i, (W i).cell? ⟨g1, 1, none⟩ = some (.int .i64 p2) := fun i => cell_of_blk (((hW i).below.block _ (by omega)).trans K1) rfl
  have c3 : ∀ i, (W i).cell? ⟨g1 + 1, 0, none⟩ = some (.int .i64 q1) := fun i => cell_of_blk (((hW i).below.block _ l2).trans K2) rfl
  have c4 : ∀ i, (W i).cell? ⟨g1 + 1, 1, none⟩ = some (.int .i64 q2) := fun i => cell_of_blk (((hW i).below.block _ l2).trans K2) rfl
  have HF : ∀ i, Hid (Gw w (W i)) := fun i => HG.out.trans (hW i)
  clear K1 K2 HG
  refine Mix.wp_region_lex (fun w' => ∃ i, w' = W i) (by kernel_rfl) (by kernel_rfl) ⟨i0, h0⟩ ?_
  rw [h0]
  clear h0
  repeat (first | (refine Mix.lex_step rfl ?_; intro K hK; go_big_quiet_step (fail); refine Mix.lex_on hK ?_; clear hK K) | (refine Mix.lex_skip rfl ?_; simp only [Act.put, List.setIfInBounds_toArray, List.set_cons_zero, List.set_cons_succ]))
  refine Mix.lex_call (HC1.out (W i0)) rfl rfl rfl (fun _ => rfl) ?_
  rintro e1 w1 ⟨rfl, rfl⟩
  refine ⟨_, rfl, ⟨i0, rfl⟩, ?_⟩
  simp only [Act.put, List.setIfInBounds_toArray, List.set_cons_zero, List.set_cons_succ]
  repeat (first | (refine Mix.lex_step rfl ?_; intro K hK; go_big_quiet_step (fail); refine Mix.lex_on hK ?_; clear hK K) | (refine Mix.lex_skip rfl ?_; simp only [Act.put, List.setIfInBounds_toArray, List.set_cons_zero, List.set_cons_succ]))
  refine Mix.lex_call (HC2.out (W i0)) rfl rfl rfl (fun _ => rfl) ?_
  rintro e1 w1 ⟨rfl, rfl⟩
  refine ⟨_, rfl, ⟨i0, rfl⟩, ?_⟩
  simp only [Act.put, List.setIfInBounds_toArray, List.set_cons_zero, List.set_cons_succ]
  repeat (first | (refine Mix.lex_step rfl ?_; intro K hK; go_big_quiet_step (fail); refine Mix.lex_on hK ?_; clear hK K) | (refine Mix.lex_skip rfl ?_; simp only [Act.put, List.setIfInBounds_toArray, List.set_cons_zero, List.set_cons_succ]))
  have hn1 := heap_alloc_new (W i0) (.cells #[.int .i64 u, .int .i64 v] 3)
  obtain ⟨j2, hj2⟩ := hC i0 _ (Gw.alloc (W i0) (.cells #[.int .i64 u, .int .i64 v] 3))
  refine Mix.lex_build (ps := #[(0, .int .i64 u), (1, .int .i64 v)]) rfl (by simp [Act.eval]) (build_two u v (W i0)) rfl ⟨j2, hj2⟩ ?_
  rw [hj2] at hn1 ⊢
  obtain ⟨g3, hg3⟩ : ∃ g3, (W i0).heap.size = g3 := ⟨_, rfl⟩
  rw [hg3] at hn1 ⊢
  have d1 : (W j2).cell? ⟨g3, 0, none⟩ = some (.int .i64 u) := cell_of_blk hn1 rfl
  have d2 : (W j2).cell? ⟨g3, 1, none⟩ = some (.int .i64 v) := cell_of_blk hn1 rfl
  clear hn1 hg3 hj2
  simp only [Act.put, List.setIfInBounds_toArray, List.set_cons_zero, List.set_cons_succ]
  have hor := or_any g3 2 u v (W j2) d1 d2
  rw [HRR.out] at hor
  refine Mix.lex_call hor rfl rfl rfl (fun _ => rfl) ?_
  rintro e1 w1 ⟨rfl, rfl⟩
  refine ⟨_, rfl, ⟨j2, rfl⟩, ?_⟩
  simp only [Act.put, List.setIfInBounds_toArray, List.set_cons_zero, List.set_cons_succ]
  repeat (first | (refine Mix.lex_step rfl ?_; intro K hK; go_big_quiet_step (fail); refine Mix.lex_on hK ?_; clear hK K) | (refine Mix.lex_skip rfl ?_; simp only [Act.put, List.setIfInBounds_toArray, List.set_cons_zero, List.set_cons_succ]))
  refine Mix.lex_nil ?_
  have HF2 := HF j2
  generalize W j2 = w9 at *
  go_wp2
  go_ret
  exact ⟨rfl, HF2.out⟩

/-- A stop with its square. -/
theorem dq_pt {p : C} {l : List C} {i : Nat} {q : C} (h : l[i]? = some q) : dq p l i = sq q.1 q.2 p.1 p.2 := by
  unfold dq
  rw [List.getD_eq_getElem?_getD, h]
  exact sq_sym _ _ _ _
set_option maxHeartbeats 1600000 in
set_option maxRecDepth 100000 in
theorem point_any (a : Addr) (l : List C) (s : Int) (i : Nat) (x y : Int) (w : World) (h : Gr w a l s) (hi : i < l.length) :
    Calls Try.prog 22 #[.pointer (some a), .int .i64 (i : Int), .int .i64 x, .int .i64 y] w fun e w' => e = .returned (.agg #[.int .i64 (i : Int), .int .i64 (dq (x, y) l i)]) ∧ Below w.heap.size w w' := by
  obtain ⟨g, A, n, c, b, base, D, rfl, hg, h0, h1, h2, hr, hk, hm, hd⟩ := h
  have hl : l.length = n := hr.1
  obtain ⟨b1, o1, p, rfl, hb1, hp, hc0, hc1⟩ := two_at hr (by omega : i < n)
  have HQ := Lib.hid (dq_pt (p := (x, y)) hp)
  have e1 : (i : Int) < (n : Int) := by omega
  have e2 : ((i : Int)).toNat = i := by omega
  have e3 : (0 : Int) ≤ (i : Int) := by omega
  have hn0 : n ≤ 4096 := by have := (right_ok hk).1; omega
  have HSQ := Lib.hid (square_any p (x, y))
  have HB := Lib.hid ((Below.refl w.heap.size w).alloc (Nat.le_refl _) (.cells #[.int .i64 0, .int .i64 0] 57))
  have HN := Lib.hid (heap_alloc_new w (.cells #[.int .i64 0, .int .i64 0] 57))
  have k1 : (w.alloc (.cells #[.int .i64 0, .int .i64 0] 57)).cell? ⟨g, 1, none⟩ = some (.slice (some ⟨b1, o1, none⟩) n c) := (HB.out.cell hg).trans h1
  have k2 : (w.alloc (.cells #[.int .i64 0, .int .i64 0] 57)).cell? ⟨b1, o1 + i * 2, none⟩ = some (.int .i64 p.1) := (HB.out.cell hb1).trans hc0
  have k3 : (w.alloc (.cells #[.int .i64 0, .int .i64 0] 57)).cell? ⟨b1, o1 + i * 2 + 1, none⟩ = some (.int .i64 p.2) := (HB.out.cell hb1).trans hc1
  have I2 : (Try.prog.info? 57).map (·.size) = some #[(.int .i64 (i : Int) : Value), .int .i64 (dq (x, y) l i)].size := by kernel_rfl
  obtain ⟨p1, p2⟩ := p
  simp only at *
  clear hr hm hd hk hp hi hl h0 h1 h2 hc0 hc1
  obtain ⟨gw, hgw⟩ : ∃ gw, w.heap.size = gw := ⟨_, rfl⟩
  rw [hgw] at HB HN
  go_enter Try.func22, Try.ntmps22
  go_upto_region 1 with fail
  have hgA : gw < (w.alloc (.cells #[.int .i64 0, .int .i64 0] 57)).heap.size := (Array.getElem?_eq_some_iff.1 HN.out).1
  generalize w.alloc (.cells #[.int .i64 0, .int .i64 0] 57) = wA at *
  go_wp2_with fail
  refine (HSQ.out wA).mono ?_
  rintro e4 w4 ⟨rfl, hb4⟩
  have K4 : w4.heap[gw]? = some (.cells #[.int .i64 0, .int .i64 0] 57) := (hb4.block gw hgA).trans HN.out
  have f1 : w4.cell? ⟨gw, 0, none⟩ = some (.int .i64 0) := cell_of_blk K4 rfl
  have f2 : w4.cell? ⟨gw, 1, none⟩ = some (.int .i64 0) := cell_of_blk K4 rfl
  have f3 : w4.frozen? ⟨gw, 0, none⟩ = false := free_of_blk K4
  have f4 : w4.frozen? ⟨gw, 1, none⟩ = false := free_of_blk K4
  have HB4 := Lib.hid (HB.out.trans (hb4.mono (by omega)))
  have HK4 := Lib.hid K4
  clear hb4 HB HN HSQ K4
  go_wp2
  have hS : dq (x, y) l i = sq p1 p2 x y := HQ.out
  rw [hS] at I2 ⊢
  refine bodyPost_ret (results_cell_only rfl _ _ gw #[.int .i64 (i : Int), .int .i64 (sq p1 p2 x y)] rfl (run_loadVar_row _ _ 57 57 _ (0, 0) _ (set_blk (set_blk HK4.out)) Try.underlying57 rfl I2)) rfl ?_
  refine ⟨rfl, ?_⟩
  rw [hgw]
  have h1 := Only.setCell w4 ⟨gw, 0, none⟩ (.int .i64 (i : Int))
  have h2 := Only.setCell (w4.setCell ⟨gw, 0, none⟩ (.int .i64 (i : Int))) ⟨gw, 1, none⟩ (.int .i64 (sq p1 p2 x y))
  have hs4 : gw ≤ w4.heap.size := Nat.le_of_lt (Array.getElem?_eq_some_iff.1 HK4.out).1
  exact (HB4.out.trans (h1.below hs4 (fun k hk => by subst hk; exact Nat.le_refl _))).trans (h2.below (Nat.le_trans hs4 h1.size) (fun k hk => by subst hk; exact Nat.le_refl _))
end Go.Proofs.Ytddlenbahidkaaa.Gd
