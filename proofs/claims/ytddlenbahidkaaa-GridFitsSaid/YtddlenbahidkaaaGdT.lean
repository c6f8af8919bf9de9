/- Layer 14 (grid), the landed program: a grid in memory; cell, made, Len, Cell, as contracts. -/
import Derived.Test.YtddlenbahidkaaaGdK
import Derived.Test.YtddlenbahidkaaaGdC
import Derived.Test.YtddlenbahidkaaaGeAm
import Derived.Test.YtddlenbahidkaaaEnt
import Derived.Test.YtddlenbahidkaaaResO
import Derived.Test.YtddlenbahidkaaaFam
import Derived.Test.YtddlenbahidkaaaMix
import Derived.BigRegion
import Derived.Deep.DeepCutAuto
namespace Go.Proofs.Ytddlenbahidkaaa.Gd
open Go.RowKit Rec Ints Ge Go.WideMaps Go.Maps Go.ChangeMaps ResO

set_option maxHeartbeats 1600000 in
set_option maxRecDepth 100000 in
theorem cell_any (g : Nat) (s x y : Int) (w : World) (hc : w.cell? ⟨g, 0, none⟩ = some (.int .i64 s)) (hg : g < w.heap.size) (hs : 0 < s) (hx : 0 ≤ x ∧ x < 67108864) (hy : 0 ≤ y ∧ y < 67108864) :
    Calls Try.prog 18 #[.pointer (some ⟨g, 0, none⟩), .int .i64 x, .int .i64 y] w fun e w' => e = .returned (.agg #[.int .i64 (x.tdiv s), .int .i64 (y.tdiv s)]) ∧ Below w.heap.size w w' := by
  have hz : ¬ (s = 0) := by omega
  have bx : IntKind.i64.wrap (x.tdiv s) = x.tdiv s := IntWalk.i64_in _ (by
    have h1 := Int.tdiv_nonneg hx.1 (by omega : 0 ≤ s)
    have h2 := Int.tdiv_le_self s hx.1
    omega)
  have by_ : IntKind.i64.wrap (y.tdiv s) = y.tdiv s := IntWalk.i64_in _ (by
    have h1 := Int.tdiv_nonneg hy.1 (by omega : 0 ≤ s)
    have h2 := Int.tdiv_le_self s hy.1
    omega)
  have mixed : Try.prog.follows .mixedOrders = true := by kernel_rfl
  obtain ⟨X, hX⟩ : ∃ X, x.tdiv s = X := ⟨_, rfl⟩
  obtain ⟨Y, hY⟩ : ∃ Y, y.tdiv s = Y := ⟨_, rfl⟩
  rw [hX] at bx
  rw [hY] at by_
  rw [hX, hY]
  clear hx hy hs
  have hgn : ¬ (w.heap.size = g) := by omega
  go_enter Try.func18, Try.ntmps18
  have I2 : (Try.prog.info? 32).map (·.size) = some #[(.int .i64 X : Value), .int .i64 Y].size := by kernel_rfl
  go_upto_region 1 with fail
  go_region
  go_wp2
  refine bodyPost_ret (results_cell_only rfl _ _ w.heap.size #[.int .i64 X, .int .i64 Y] rfl (run_loadVar_row _ _ 32 32 _ (0, 0) _ (heap_alloc_new w _) Try.underlying32 rfl I2)) rfl ?_
  exact ⟨rfl, ((Below.refl _ _).alloc (Nat.le_refl _) _).drew⟩

theorem made_any (g : Nat) (s : Int) (w : World) (hc : w.cell? ⟨g, 0, none⟩ = some (.int .i64 s)) (hs : 0 < s) :
    Calls Try.prog 19 #[.pointer (some ⟨g, 0, none⟩)] w fun e w' => e = .returned (.bool true) ∧ w' = w := by
  have d0 : decide (0 < s) = true := decide_eq_true hs
  go_enter Try.func19, Try.ntmps19
  go_wp2
  go_ret
  exact ⟨rfl, rfl⟩
theorem made_nil (w : World) : Calls Try.prog 19 #[.pointer none] w fun e w' => e = .returned (.bool false) ∧ w' = w := by
  go_enter Try.func19, Try.ntmps19
  go_wp2
  go_ret
  exact ⟨rfl, rfl⟩

/-- A grid in memory. -/
def Gr (w : World) (a : Addr) (l : List C) (s : Int) : Prop :=
  ∃ g A n c b base D, a = ⟨g, 0, none⟩ ∧ g < w.heap.size ∧ w.cell? ⟨g, 0, none⟩ = some (.int .i64 s) ∧ w.cell? ⟨g, 1, none⟩ = some (.slice A n c) ∧ w.cell? ⟨g, 2, none⟩ = some (.map (some b)) ∧
    RRow twoS w w.heap.size A n l ∧ right l s = 0 ∧ w.ownsGroups Try.prog 32 base 3 .i64 b n D ∧ GM l s n D
theorem Gr.keep {w w' : World} {a : Addr} {l : List C} {s : Int} (h : Gr w a l s) (hb : Below w.heap.size w w') : Gr w' a l s := by
  obtain ⟨g, A, n, c, b, base, D, rfl, hg, h0, h1, h2, hr, hk, hm, hd⟩ := h
  exact ⟨g, A, n, c, b, base, D, rfl, Nat.lt_of_lt_of_le hg hb.size, (hb.cell hg).trans h0, (hb.cell hg).trans h1, (hb.cell hg).trans h2, (hr.below hb).more hb.size, hk, Ent.groups_kept hm fun k hk => hb.block k hk, hd⟩
theorem right_ok {l : List C} {s : Int} (h : right l s = 0) : l.length ≤ 4096 ∧ 1 ≤ s ∧ s ≤ 67108864 ∧ Good l := by
  unfold right at h
  by_cases h1 : 4096 < l.length
  · rw [if_pos h1] at h; cases h
  · rw [if_neg h1] at h
    by_cases h2 : s < 1 ∨ 67108864 < s
    · rw [if_pos h2] at h; cases h
    · rw [if_neg h2] at h
      by_cases h3 : Good l
      · exact ⟨by omega, by omega, by omega, h3⟩
      · rw [if_neg h3] at h; cases h

set_option maxRecDepth 100000 in
theorem len_any (a : Addr) (l : List C) (s : Int) (w : World) (h : Gr w a l s) :
    Calls Try.prog 8 #[.pointer (some a)] w fun e w' => e = .returned (.int .i64 (l.length : Int)) ∧ Below w.heap.size w w' := by
  obtain ⟨g, A, n, c, b, base, D, rfl, hg, h0, h1, h2, hr, hk, hm, hd⟩ := h
  have hl : l.length = n := hr.1
  have hs := (right_ok hk).2.1
  rw [hl]
  clear hr hm hd hk h2
  go_enter Try.func8, Try.ntmps8
  go_wp2_with fail
  refine (made_any g s _ h0 (by omega)).mono ?_
  rintro e1 w1 ⟨rfl, rfl⟩
  go_wp2
  go_ret
  exact ⟨rfl, Below.refl _ _⟩
theorem len_nil (w : World) : Calls Try.prog 8 #[.pointer none] w fun e w' => e = .returned (.int .i64 0) ∧ Below w.heap.size w w' := by
  go_enter Try.func8, Try.ntmps8
  go_wp2_with fail
  refine (made_nil _).mono ?_
  rintro e1 w1 ⟨rfl, rfl⟩
  go_wp2
  go_ret
  exact ⟨rfl, Below.refl _ _⟩

theorem flat_ints : ∀ zs : List Int, zs.map (Value.int .i64) = intS.flat zs
  | [] => rfl
  | z :: t => by rw [flat_cons, List.map_cons, flat_ints t]; rfl
/-- A slice of ints of the call's own, as a row. -/
theorem row_ints {w : World} {base : Nat} {v : Value} {zs : List Int} (h : w.ownsInts base 3 .i64 v zs) : ∃ A n c, v = .slice A n c ∧ RRow intS w w.heap.size A n zs ∧ (A = none → c = 0) ∧ n ≤ c ∧ c ≤ maxLen := by
  have h1 := h.1
  rw [flat_ints] at h1
  obtain ⟨A, n, c, e1, e2, e3, e4, e5, _⟩ := InTo.of_own h1 (Below.refl _ _)
  exact ⟨A, n, c, e1, e2, e3, e4, e5⟩
theorem lawCell : KeyLaw Try.prog 32 := deep_law_laid laidCell (m := 2) (by omega) rowCell (by kernel_rfl) wideCell
/-- What a look-up finds. -/
theorem look_at {w : World} {base b n : Nat} {D : DataW Unit} {l : List C} {s : Int} {q : C} (h : w.ownsGroups Try.prog 32 base 3 .i64 b n D) (hn : n = l.length) (hm : GM l s n D) (hl : n ≤ 4096) (hq : B64p q) :
    ∃ A m c, RRow intS w w.heap.size A m (nums (Gd.cell l s q)) ∧ (A = none → c = 0) ∧ m ≤ c ∧ c ≤ maxLen ∧ m ≤ 4096 ∧ ∀ w' : World, w'.heap[b]? = w.heap[b]? → (Instr.lookup 49 (.map (some b)) (.agg #[.int .i64 q.1, .int .i64 q.2]) false).run Try.prog w' = .ok (.slice A m c) w' := by
  obtain ⟨v, zs, hat, hoi, hzl, hrun⟩ := Ent.groups_look h lawCell mapCell noSlice (by unfold maxLen; omega) (key_cell q hq)
  have h1 := hm.2 q hq
  rw [hat, items_row hoi, List.take_of_length_le (by omega)] at h1
  subst h1
  obtain ⟨A, m, c, rfl, hr, h2, h3, h4⟩ := row_ints hoi
  have h5 : (nums (Gd.cell l s q)).length = m := hr.1
  exact ⟨A, m, c, hr, h2, h3, h4, by omega, hrun⟩

theorem _root_.Go.Proofs.Ytddlenbahidkaaa.Ints.InTo.rebase {B B' : Nat} {w0 w1 w' : World} {l : List Int} {v : Value} (h : InTo B w0 l v w') (hb : Below B' w1 w') : InTo B' w1 l v w' := by
  obtain ⟨A, n, c, e1, e2, e3, e4, e5, _⟩ := h
  exact ⟨A, n, c, e1, e2, e3, e4, e5, hb⟩

set_option maxHeartbeats 1600000 in
set_option maxRecDepth 100000 in
theorem cellof_any (a : Addr) (l : List C) (s : Int) (q : C) (w : World) (h : Gr w a l s) (hq : B64p q) :
    Calls Try.prog 10 #[.pointer (some a), .agg #[.int .i64 q.1, .int .i64 q.2]] w fun e w' => ∃ v, e = .returned v ∧ InTo w.heap.size w (nums (Gd.cell l s q)) v w' := by
  obtain ⟨g, A, n, c, b, base, D, rfl, hg, h0, h1, h2, hr, hk, hm, hd⟩ := h
  have hl : l.length = n := hr.1
  have hs := (right_ok hk).2.1
  have hl4 := (right_ok hk).1
  have hbs := Ent.groups_lt hm
  obtain ⟨A', m, c', hr', e2, e3, e4, hm4, hrun⟩ := look_at hm hl.symm hd (by omega) hq
  have HR := Lib.hid hr'
  have HX := Lib.hid (And.intro e2 (And.intro e3 e4))
  have HM := Lib.hid hm4
  clear hr' e2 e3 e4 hr hd hk hm h1 hm4
  have HB := Lib.hid ((Below.refl w.heap.size w).alloc (Nat.le_refl _) (.cells #[.int .i64 q.1, .int .i64 q.2] 32))
  have HC := Lib.hid (heap_alloc_new w (.cells #[.int .i64 q.1, .int .i64 q.2] 32))
  have hne : ¬ (w.heap.size = g) := by omega
  have HS : Hid (0 < s) := by unfold Hid; omega
  clear hs hl hl4
  obtain ⟨q1, q2⟩ := q
  simp only at *
  go_enter Try.func10, Try.ntmps10
  go_wp2_with fail
  refine (made_any g s _ ((HB.out.cell hg).trans h0) HS.out).mono ?_
  rintro e1 w1 ⟨rfl, rfl⟩
  go_wp2_with fail
  obtain ⟨gc, hgc⟩ : ∃ gc, w.heap.size = gc := ⟨_, rfl⟩
  have HG := Lib.hid hgc
  rw [hgc] at HC HB hbs hg
  have HW : Hid (gc ≤ w.heap.size) := by unfold Hid; omega
  have hcm : (w.alloc (.cells #[.int .i64 q1, .int .i64 q2] 32)).cell? ⟨g, 2, none⟩ = some (.map (some b)) := (HB.out.cell hg).trans h2
  have hbm : ∀ w' : World, w'.heap[b]? = (w.alloc (.cells #[.int .i64 q1, .int .i64 q2] 32)).heap[b]? → (Instr.lookup 49 (.map (some b)) (.agg #[.int .i64 q1, .int .i64 q2]) false).run Try.prog w' = .ok (.slice A' m c') w' := fun w' h => hrun w' (h.trans (HB.out.block b hbs))
  rw [hgc]
  generalize hw5 : w.alloc (.cells #[.int .i64 q1, .int .i64 q2] 32) = w5 at *
  have hgc5 : gc < w5.heap.size := (Array.getElem?_eq_some_iff.1 HC.out).1
  obtain ⟨ι, hne', W, i0, h0', hW, hC⟩ := fam_of w5
  have d1 : ∀ i, (W i).cell? ⟨gc, 0, none⟩ = some (.int .i64 q1) := fun i => cell_of_blk (((hW i).block _ hgc5).trans HC.out) rfl
  have d2 : ∀ i, (W i).cell? ⟨gc, 1, none⟩ = some (.int .i64 q2) := fun i => cell_of_blk (((hW i).block _ hgc5).trans HC.out) rfl
  have d3 : ∀ i, (W i).cell? ⟨g, 2, none⟩ = some (.map (some b)) := fun i => ((hW i).cell (by show g < _; omega)).trans hcm
  have d4 : ∀ i, (Instr.lookup 49 (.map (some b)) (.agg #[.int .i64 q1, .int .i64 q2]) false).run Try.prog (W i) = .ok (.slice A' m c') (W i) := fun i => hbm _ ((hW i).block b (by omega))
  have HWB : ∀ i, Hid (Below gc w (W i)) := fun i => HB.out.trans ((hW i).mono (by omega))
  have HWR : ∀ i, Hid (RRow intS (W i) gc A' m (nums (Gd.cell l s (q1, q2)))) := fun i => by rw [HG.out] at HR; exact HR.out.below (HWB i).out
  clear hrun hbm hw5 h0 h2 hcm hne HR
  refine Mix.wp_region_lex (fun w' => ∃ i, w' = W i) (by kernel_rfl) (by kernel_rfl) ⟨i0, h0'⟩ ?_
  rw [h0']
  clear h0'
  repeat (first | (refine Mix.lex_step rfl ?_; intro K hK; go_big_quiet_step (fail); refine Mix.lex_on hK ?_; clear hK K) | (refine Mix.lex_skip rfl ?_; simp only [Act.put, List.setIfInBounds_toArray, List.set_cons_zero, List.set_cons_succ]))
  refine Mix.lex_call (clone_ints A' m c' gc (nums (Gd.cell l s (q1, q2))) (W i0) (HWR i0).out HX.out.1 (Nat.le_trans HW.out (HWB i0).out.size) (by have := HM.out; omega)) rfl rfl rfl (fun _ => rfl) ?_
  rintro e6 w6 ⟨v6, rfl, ho6, hb6⟩
  have HI := Lib.hid ((InTo.of_own ho6 hb6).rebase (B' := gc) ((HWB i0).out.trans (hb6.mono (Nat.le_trans HW.out (HWB i0).out.size))))
  obtain ⟨j6, rfl⟩ := hC _ w6 hb6
  clear hb6 ho6
  refine ⟨_, rfl, ⟨j6, rfl⟩, ?_⟩
  simp only [Act.put, List.setIfInBounds_toArray, List.set_cons_zero, List.set_cons_succ]
  repeat (first | (refine Mix.lex_step rfl ?_; intro K hK; go_big_quiet_step (fail); refine Mix.lex_on hK ?_; clear hK K) | (refine Mix.lex_skip rfl ?_; simp only [Act.put, List.setIfInBounds_toArray, List.set_cons_zero, List.set_cons_succ]))
  refine Mix.lex_nil ?_
  generalize W j6 = w9 at *
  go_wp2
  go_ret
  exact ⟨_, rfl, by rw [HG.out]; exact HI.out⟩
theorem cellof_nil (q : C) (w : World) : Calls Try.prog 10 #[.pointer none, .agg #[.int .i64 q.1, .int .i64 q.2]] w fun e w' => ∃ v, e = .returned v ∧ InTo w.heap.size w [] v w' := by
  obtain ⟨q1, q2⟩ := q
  simp only
  have HB := Lib.hid ((Below.refl w.heap.size w).alloc (Nat.le_refl _) (.cells #[.int .i64 q1, .int .i64 q2] 32))
  go_enter Try.func10, Try.ntmps10
  go_wp2_with fail
  refine (made_nil _).mono ?_
  rintro e1 w1 ⟨rfl, rfl⟩
  go_wp2
  go_ret
  exact ⟨_, rfl, InTo.nil HB.out⟩
end Go.Proofs.Ytddlenbahidkaaa.Gd
