/- Lemmas that the proof stands on, in build order: PdS GeMa. -/
import Derived.BigRegion
import Derived.BigQuiet
import Derived.Deep.DeepCutAuto
import Derived.Deep.QuietTactic
import Derived.WalkMore
import Derived.Test.YtdhlbcbgbmgcjaaJ10828d9b
import Derived.Test.YtdhlbcbgbmgcjaaJ2538e119
import Derived.Test.YtdhlbcbgbmgcjaaJ26b1b13a
import Derived.Test.YtdhlbcbgbmgcjaaJ303be92b
import Derived.Test.YtdhlbcbgbmgcjaaJ3726ed68
import Derived.Test.YtdhlbcbgbmgcjaaJ774df6f
import Derived.Test.YtdhlbcbgbmgcjaaJ97acb16
/- Layer 17 (path), the landed program: the order of links, and slices.BinarySearchFunc over it, as contracts. -/
namespace Go.Proofs.Ytdhlbcbgbmgcjaa.Pt
open Go.RowKit Rec Ints Ge Gf Pa Gd

def cf3 (a b : L3) : Int := if cmpi a.1 b.1 = 0 then cmpi a.2.1 b.2.1 else cmpi a.1 b.1
theorem cf3_lt (a b : L3) : cf3 a b < 0 ↔ bt a b := by
  unfold cf3 cmpi bt
  repeat (split <;> try omega)
theorem cf3_eq (a b : L3) : cf3 a b = 0 ↔ a.1 = b.1 ∧ a.2.1 = b.2.1 := by
  unfold cf3 cmpi
  repeat (split <;> try omega)
set_option maxHeartbeats 1600000 in
set_option maxRecDepth 100000 in
theorem order_any (p q : L3) (w : World) : Calls Try.prog 33 #[.agg #[.int .i64 p.1, .int .i64 p.2.1, .int .i64 p.2.2], .agg #[.int .i64 q.1, .int .i64 q.2.1, .int .i64 q.2.2]] w fun e w' => e = .returned (.int .i64 (cf3 p q)) ∧ Below w.heap.size w w' := by
  obtain ⟨p1, p2, p3⟩ := p
  obtain ⟨q1, q2, q3⟩ := q
  obtain ⟨u, hu⟩ : ∃ u, cmpi p1 q1 = u := ⟨_, rfl⟩
  obtain ⟨v, hv⟩ : ∃ v, cmpi p2 q2 = v := ⟨_, rfl⟩
  obtain ⟨r, hr⟩ : ∃ r, cf3 (p1, p2, p3) (q1, q2, q3) = r := ⟨_, rfl⟩
  have HC1 : Hid (∀ W, Calls Try.prog 42 #[.int .i64 p1, .int .i64 q1] W fun e w' => e = .returned (.int .i64 u) ∧ w' = W) := fun W => by rw [← hu]; exact compare_any p1 q1 W
  have HC2 : Hid (∀ W, Calls Try.prog 42 #[.int .i64 p2, .int .i64 q2] W fun e w' => e = .returned (.int .i64 v) ∧ w' = W) := fun W => by rw [← hv]; exact compare_any p2 q2 W
  have HRR : Hid ((if u = 0 then v else u) = r) := by rw [← hr, ← hu, ← hv]; rfl
  rw [hr]
  clear hu hv hr
  simp only
  have HG := Lib.hid ((Gw.alloc w (.cells #[.int .i64 p1, .int .i64 p2, .int .i64 p3] 45)).trans (Gw.alloc _ (.cells #[.int .i64 q1, .int .i64 q2, .int .i64 q3] 45)))
  have H1 := Lib.hid ((heap_alloc_new w (.cells #[.int .i64 p1, .int .i64 p2, .int .i64 p3] 45)))
  have H2 := Lib.hid ((heap_alloc_new (w.alloc (.cells #[.int .i64 p1, .int .i64 p2, .int .i64 p3] 45)) (.cells #[.int .i64 q1, .int .i64 q2, .int .i64 q3] 45)))
  have H3 := Lib.hid (((Below.refl (w.alloc (.cells #[.int .i64 p1, .int .i64 p2, .int .i64 p3] 45)).heap.size _).alloc (Nat.le_refl _) (.cells #[.int .i64 q1, .int .i64 q2, .int .i64 q3] 45)))
  have hsz : (w.alloc (.cells #[.int .i64 p1, .int .i64 p2, .int .i64 p3] 45)).heap.size = w.heap.size + 1 := by simp
  go_enter Try.func33, Try.ntmps33
  go_wp2
  obtain ⟨g1, hg1⟩ : ∃ g1, w.heap.size = g1 := ⟨_, rfl⟩
  rw [hg1] at hsz
  rw [hsz] at H2 H3
  rw [hg1] at H1
  rw [hg1]
  generalize w.alloc (.cells #[.int .i64 p1, .int .i64 p2, .int .i64 p3] 45) = wa at *
  generalize wa.alloc (.cells #[.int .i64 q1, .int .i64 q2, .int .i64 q3] 45) = wb at *
  have K1 : wb.heap[g1]? = some (.cells #[.int .i64 p1, .int .i64 p2, .int .i64 p3] 45) := (H3.out.block g1 (by omega)).trans H1.out
  have K2 := H2.out
  have l2 : g1 + 1 < wb.heap.size := (Array.getElem?_eq_some_iff.1 K2).1
  clear H1 H2 H3 hsz
  obtain ⟨ι, hne, W, i0, h0, hW, hC⟩ := fam_gw wb
  have c1 : ∀ i, (W i).cell? ⟨g1, 0, none⟩ = some (.int .i64 p1) := fun i => cell_of_blk (((hW i).below.block _ (by omega)).trans K1) rfl
  have c2 : ∀ i, (W i).cell? ⟨g1, 1, none⟩ = some (.int .i64 p2) := fun i => cell_of_blk (((hW i).below.block _ (by omega)).trans K1) rfl
  have c3 : ∀ i, (W i).cell? ⟨g1 + 1, 0, none⟩ = some (.int .i64 q1) := fun i => cell_of_blk (((hW i).below.block _ l2).trans K2) rfl
  have c4 : ∀ i, (W i).cell? ⟨g1 + 1, 1, none⟩ = some (.int .i64 q2) := fun i => cell_of_blk (((hW i).below.block _ l2).trans K2) rfl
  have HF : ∀ i, Hid (Gw w (W i)) := fun i => HG.out.trans (hW i)
  clear K1 K2 HG
  refine Mix.wp_region_lex (fun w' => ∃ i, w' = W i) (by kernel_rfl) (by kernel_rfl) ⟨i0, h0⟩ ?_
  rw [h0]
  clear h0
  repeat (first | (refine Mix.lex_step rfl ?_; intro K hK; go_big_quiet_step (fail); refine Mix.lex_on hK ?_; clear hK K) | (refine Mix.lex_skip rfl ?_; simp only [Act.put, List.setIfInBounds_toArray, List.set_cons_zero, List.set_cons_succ]))
  refine Mix.lex_call (HC1.out (W i0)) rfl rfl rfl (fun _ => rfl) ?_
  rintro e1 w1 ⟨rfl, rfl⟩
  refine ⟨_, rfl, ⟨i0, rfl⟩, ?_⟩
  simp only [Act.put, List.setIfInBounds_toArray, List.set_cons_zero, List.set_cons_succ]
  repeat (first | (refine Mix.lex_step rfl ?_; intro K hK; go_big_quiet_step (fail); refine Mix.lex_on hK ?_; clear hK K) | (refine Mix.lex_skip rfl ?_; simp only [Act.put, List.setIfInBounds_toArray, List.set_cons_zero, List.set_cons_succ]))
  refine Mix.lex_call (HC2.out (W i0)) rfl rfl rfl (fun _ => rfl) ?_
  rintro e1 w1 ⟨rfl, rfl⟩
  refine ⟨_, rfl, ⟨i0, rfl⟩, ?_⟩
  simp only [Act.put, List.setIfInBounds_toArray, List.set_cons_zero, List.set_cons_succ]
  repeat (first | (refine Mix.lex_step rfl ?_; intro K hK; go_big_quiet_step (fail); refine Mix.lex_on hK ?_; clear hK K) | (refine Mix.lex_skip rfl ?_; simp only [Act.put, List.setIfInBounds_toArray, List.set_cons_zero, List.set_cons_succ]))
  have hn1 := heap_alloc_new (W i0) (.cells #[.int .i64 u, .int .i64 v] 3)
  obtain ⟨j2, hj2⟩ := hC i0 _ (Gw.alloc (W i0) (.cells #[.int .i64 u, .int .i64 v] 3))
  refine Mix.lex_build (ps := #[(0, .int .i64 u), (1, .int .i64 v)]) rfl (by simp [Act.eval]) (build_two u v (W i0)) rfl ⟨j2, hj2⟩ ?_
  rw [hj2] at hn1 ⊢
  obtain ⟨g3, hg3⟩ : ∃ g3, (W i0).heap.size = g3 := ⟨_, rfl⟩
  rw [hg3] at hn1 ⊢
  have d1 : (W j2).cell? ⟨g3, 0, none⟩ = some (.int .i64 u) := cell_of_blk hn1 rfl
  have d2 : (W j2).cell? ⟨g3, 1, none⟩ = some (.int .i64 v) := cell_of_blk hn1 rfl
  clear hn1 hg3 hj2
  simp only [Act.put, List.setIfInBounds_toArray, List.set_cons_zero, List.set_cons_succ]
  have hor := or_any g3 2 u v (W j2) d1 d2
  rw [HRR.out] at hor
  refine Mix.lex_call hor rfl rfl rfl (fun _ => rfl) ?_
  rintro e1 w1 ⟨rfl, rfl⟩
  refine ⟨_, rfl, ⟨j2, rfl⟩, ?_⟩
  simp only [Act.put, List.setIfInBounds_toArray, List.set_cons_zero, List.set_cons_succ]
  repeat (first | (refine Mix.lex_step rfl ?_; intro K hK; go_big_quiet_step (fail); refine Mix.lex_on hK ?_; clear hK K) | (refine Mix.lex_skip rfl ?_; simp only [Act.put, List.setIfInBounds_toArray, List.set_cons_zero, List.set_cons_succ]))
  refine Mix.lex_nil ?_
  have HF2 := HF j2
  generalize W j2 = w9 at *
  go_wp2
  go_ret
  exact ⟨rfl, HF2.out.below⟩

/-- Halfway: all links ahead of lo come ahead of x; none from hi on. -/
def Hw (L : List L3) (x : L3) (lo hi : Nat) : Prop := lo ≤ hi ∧ hi ≤ L.length ∧ (∀ i l, i < lo → L[i]? = some l → bt l x) ∧ ∀ i l, hi ≤ i → L[i]? = some l → ¬ bt l x
set_option maxHeartbeats 3200000 in
set_option maxRecDepth 100000 in
theorem search_any (A : Option Addr) (m c : Nat) (L : List L3) (x : L3) (w : World) (h : RRow lkS w w.heap.size A m L) (hm : m ≤ 16384) (hp : L.Pairwise bt) :
    Calls Try.prog 32 #[.slice A m c, .agg #[.int .i64 x.1, .int .i64 x.2.1, .int .i64 x.2.2], .func (.func 33) #[] #[]] w fun e w' =>
      ∃ (i : Nat) (f : Bool), e = .returned (.tuple #[.int .i64 (i : Int), .bool f]) ∧ (f = true → ∃ l, L[i]? = some l ∧ l.1 = x.1 ∧ l.2.1 = x.2.1) ∧ (f = false → ∀ l ∈ L, ¬ (l.1 = x.1 ∧ l.2.1 = x.2.1)) ∧ Below w.heap.size w w' := by
  have HR := Lib.hid h
  have HL := Lib.hid h.len
  have HPW := Lib.hid hp
  have HW0 : Hid (Hw L x 0 m) := ⟨Nat.zero_le _, by rw [HL.out]; exact Nat.le_refl _, fun i l hi => absurd hi (Nat.not_lt_zero _), fun i l hi hl => by have := (List.getElem?_eq_some_iff.1 hl).1; have := HL.out; omega⟩
  have HB0 := Lib.hid ((Below.refl w.heap.size w).alloc (Nat.le_refl _) (.cells #[.int .i64 x.1, .int .i64 x.2.1, .int .i64 x.2.2] 45))
  have HX0 := Lib.hid (heap_alloc_new w (.cells #[.int .i64 x.1, .int .i64 x.2.1, .int .i64 x.2.2] 45))
  clear h hp
  go_enter Try.func32, Try.ntmps32
  go_wp2
  generalize w.alloc (.cells #[.int .i64 x.1, .int .i64 x.2.1, .int .i64 x.2.2] 45) = w1 at *
  go_loopw [9, 10, 11] (fun v9 v10 _ wr => ∃ lo hi : Nat, v9 = .int .i64 (lo : Int) ∧ v10 = .int .i64 (hi : Int) ∧ lo ≤ hi ∧ hi ≤ m ∧ Hid (Hw L x lo hi) ∧ Hid (Below w.heap.size w wr) ∧ Hid (wr.heap[w.heap.size]? = some (.cells #[.int .i64 x.1, .int .i64 x.2.1, .int .i64 x.2.2] 45 (0, 0)))) (fun v9 v10 _ _ => (intOf v10).toNat - (intOf v9).toNat)
  case atStart => exact ⟨0, m, rfl, rfl, Nat.zero_le _, Nat.le_refl _, HW0, HB0, HX0⟩
  case round =>
    clear HW0 HB0 HX0
    obtain ⟨lo, hi, rfl, rfl, hlh, him, HW, HB, HX⟩ := hrel
    by_cases hlt : lo < hi
    · have e0 : decide ((lo : Int) < (hi : Int)) = true := decide_eq_true (by omega)
      have q0 : IntKind.i64.wrap ((lo : Int) + (hi : Int)) = (lo : Int) + (hi : Int) := IntWalk.i64_in _ ⟨by omega, by omega⟩
      have q1 : IntKind.u64.wrap ((lo : Int) + (hi : Int)) = (lo : Int) + (hi : Int) := IntWalk.u64_in _ ⟨by omega, by omega⟩
      go_upto_region 5 with fail
      obtain ⟨h, hh⟩ : ∃ h : Nat, ((lo : Int) + (hi : Int)) / 2 = (h : Int) := ⟨(lo + hi) / 2, by omega⟩
      rw [hh]
      have hlo : lo ≤ h := by omega
      have hhi : h < hi := by omega
      have a1 : (0 : Int) ≤ (h : Int) := by omega
      have a2 : (h : Int) < (m : Int) := by omega
      have qh : IntKind.i64.wrap ((h : Int) + 1) = (h : Int) + 1 := IntWalk.i64_in _ ⟨by omega, by omega⟩
      clear hh q0 q1 e0
      obtain ⟨ι, hne, W, i0, h0, hW, hC⟩ := fam_of wr
      have HRF : ∀ k, Hid (RRow lkS (W k) w.heap.size A m L) := fun k => HR.out.below (HB.out.trans ((hW k).mono HB.out.size))
      have HWB : ∀ k, Hid (Below w.heap.size w (W k)) := fun k => HB.out.trans ((hW k).mono HB.out.size)
      have HXF : ∀ k, Hid ((W k).heap[w.heap.size]? = some (.cells #[.int .i64 x.1, .int .i64 x.2.1, .int .i64 x.2.2] 45 (0, 0))) := fun k => ((hW k).block _ (Array.getElem?_eq_some_iff.1 HX.out).1).trans HX.out
      obtain ⟨bb, o, l, rfl, -, hl, -, -, -⟩ := lk_at HR.out (show h < m by omega)
      have HLL := Lib.hid hl
      have c0 : ∀ k, (W k).cell? ⟨bb, o + h * 3, none⟩ = some (.int .i64 l.1) := fun k => by
        obtain ⟨b', o', l', e', -, hl', h0, -, -⟩ := lk_at (HRF k).out (show h < m by omega)
        injection e' with e'
        injection e' with e1 e2
        subst e1 e2
        rw [HLL.out] at hl'
        injection hl' with hl'
        rw [hl']
        exact h0
      have c1 : ∀ k, (W k).cell? ⟨bb, o + h * 3 + 1, none⟩ = some (.int .i64 l.2.1) := fun k => by
        obtain ⟨b', o', l', e', -, hl', -, h0, -⟩ := lk_at (HRF k).out (show h < m by omega)
        injection e' with e'
        injection e' with e1 e2
        subst e1 e2
        rw [HLL.out] at hl'
        injection hl' with hl'
        rw [hl']
        exact h0
      have c2 : ∀ k, (W k).cell? ⟨bb, o + h * 3 + 2, none⟩ = some (.int .i64 l.2.2) := fun k => by
        obtain ⟨b', o', l', e', -, hl', -, -, h0⟩ := lk_at (HRF k).out (show h < m by omega)
        injection e' with e'
        injection e' with e1 e2
        subst e1 e2
        rw [HLL.out] at hl'
        injection hl' with hl'
        rw [hl']
        exact h0
      have d0 : ∀ k, (W k).cell? ⟨w.heap.size, 0, none⟩ = some (.int .i64 x.1) := fun k => cell_of_blk (HXF k).out rfl
      have d1 : ∀ k, (W k).cell? ⟨w.heap.size, 1, none⟩ = some (.int .i64 x.2.1) := fun k => cell_of_blk (HXF k).out rfl
      have d2 : ∀ k, (W k).cell? ⟨w.heap.size, 2, none⟩ = some (.int .i64 x.2.2) := fun k => cell_of_blk (HXF k).out rfl
      have HT := Lib.hid (order_any l x (W i0))
      clear hW hl
      refine Mix.wp_region_lex (fun w' => ∃ i, w' = W i) (by kernel_rfl) (by kernel_rfl) ⟨i0, h0⟩ ?_
      rw [h0]
      clear h0
      repeat (first | (refine Mix.lex_step rfl ?_; intro K hK; go_big_quiet_step (fail); refine Mix.lex_on hK ?_; clear hK K) | (refine Mix.lex_skip rfl ?_; simp only [Act.put, List.setIfInBounds_toArray, List.set_cons_zero, List.set_cons_succ]))
      refine Mix.lex_callv (f := 33) (lb := #[]) (args := [.agg #[.int .i64 l.1, .int .i64 l.2.1, .int .i64 l.2.2], .agg #[.int .i64 x.1, .int .i64 x.2.1, .int .i64 x.2.2]]) HT.out rfl rfl rfl rfl (fun _ _ => rfl) ?_
      rintro e3 w3 ⟨rfl, hb3⟩
      obtain ⟨j3, rfl⟩ := hC _ w3 hb3
      refine ⟨_, rfl, ⟨j3, rfl⟩, ?_⟩
      simp only [Act.put, List.setIfInBounds_toArray, List.set_cons_zero, List.set_cons_succ]
      repeat (first | (refine Mix.lex_step rfl ?_; intro K hK; go_big_quiet_step (fail); refine Mix.lex_on hK ?_; clear hK K) | (refine Mix.lex_skip rfl ?_; simp only [Act.put, List.setIfInBounds_toArray, List.set_cons_zero, List.set_cons_succ]))
      refine Mix.lex_nil ?_
      have HB9 := HWB j3
      have HX9 := HXF j3
      generalize W j3 = w9 at HB9 HX9 ⊢
      clear hC c0 c1 c2 d0 d1 d2 HRF HWB HXF HB HX HT
      cases hc : decide (cf3 l x < 0) with
      | true =>
        have hbt := (cf3_lt l x).1 (of_decide_eq_true hc)
        have HWN : Hid (Hw L x (h + 1) hi) := ⟨by omega, HW.out.2.1, fun i l' hi' hl' => by
          rcases Nat.lt_or_ge i h with h1 | h1
          · have h2 := List.pairwise_iff_getElem.1 HPW.out i h (List.getElem?_eq_some_iff.1 hl').1 (List.getElem?_eq_some_iff.1 HLL.out).1 h1
            rw [(List.getElem?_eq_some_iff.1 hl').2, (List.getElem?_eq_some_iff.1 HLL.out).2] at h2
            unfold bt at *
            omega
          · obtain rfl : i = h := by omega
            rw [HLL.out] at hl'
            injection hl' with hl'
            rw [← hl']
            exact hbt, HW.out.2.2.2⟩
        clear hbt
        go_wp2
        go_roundw
        case rel => exact ⟨h + 1, hi, by go_num, rfl, by omega, him, HWN, HB9, HX9⟩
        case measure => simp [intOf]; omega
      | false =>
        have hbt : ¬ bt l x := fun h => of_decide_eq_false hc ((cf3_lt l x).2 h)
        have HWN : Hid (Hw L x lo h) := ⟨hlo, by have := HW.out.2.1; omega, HW.out.2.2.1, fun i l' hi' hl' => by
          rcases Nat.lt_or_ge h i with h1 | h1
          · have h2 := List.pairwise_iff_getElem.1 HPW.out h i (List.getElem?_eq_some_iff.1 HLL.out).1 (List.getElem?_eq_some_iff.1 hl').1 h1
            rw [(List.getElem?_eq_some_iff.1 hl').2, (List.getElem?_eq_some_iff.1 HLL.out).2] at h2
            unfold bt at *
            omega
          · obtain rfl : i = h := by omega
            rw [HLL.out] at hl'
            injection hl' with hl'
            rw [← hl']
            exact hbt⟩
        clear hbt
        go_wp2
        go_roundw
        case rel => exact ⟨lo, h, rfl, rfl, hlo, by omega, HWN, HB9, HX9⟩
        case measure => simp [intOf]; omega
    · have e0 : decide ((lo : Int) < (hi : Int)) = false := decide_eq_false (by omega)
      obtain rfl : lo = hi := by omega
      by_cases hlm : lo < m
      · have e1 : decide ((lo : Int) < (m : Int)) = true := decide_eq_true (by omega)
        have a1 : (0 : Int) ≤ (lo : Int) := by omega
        have a2 : (lo : Int) < (m : Int) := by omega
        go_upto_region 8 with fail
        obtain ⟨ι, hne, W, i0, h0, hW, hC⟩ := fam_of wr
        have HRF : ∀ k, Hid (RRow lkS (W k) w.heap.size A m L) := fun k => HR.out.below (HB.out.trans ((hW k).mono HB.out.size))
        have HWB : ∀ k, Hid (Below w.heap.size w (W k)) := fun k => HB.out.trans ((hW k).mono HB.out.size)
        have HXF : ∀ k, Hid ((W k).heap[w.heap.size]? = some (.cells #[.int .i64 x.1, .int .i64 x.2.1, .int .i64 x.2.2] 45 (0, 0))) := fun k => ((hW k).block _ (Array.getElem?_eq_some_iff.1 HX.out).1).trans HX.out
        obtain ⟨bb, o, l, rfl, -, hl, -, -, -⟩ := lk_at HR.out (show lo < m by omega)
        have HLL := Lib.hid hl
        have c0 : ∀ k, (W k).cell? ⟨bb, o + lo * 3, none⟩ = some (.int .i64 l.1) := fun k => by
          obtain ⟨b', o', l', e', -, hl', h0, -, -⟩ := lk_at (HRF k).out (show lo < m by omega)
          injection e' with e'
          injection e' with e1 e2
          subst e1 e2
          rw [HLL.out] at hl'
          injection hl' with hl'
          rw [hl']
          exact h0
        have c1 : ∀ k, (W k).cell? ⟨bb, o + lo * 3 + 1, none⟩ = some (.int .i64 l.2.1) := fun k => by
          obtain ⟨b', o', l', e', -, hl', -, h0, -⟩ := lk_at (HRF k).out (show lo < m by omega)
          injection e' with e'
          injection e' with e1 e2
          subst e1 e2
          rw [HLL.out] at hl'
          injection hl' with hl'
          rw [hl']
          exact h0
        have c2 : ∀ k, (W k).cell? ⟨bb, o + lo * 3 + 2, none⟩ = some (.int .i64 l.2.2) := fun k => by
          obtain ⟨b', o', l', e', -, hl', -, -, h0⟩ := lk_at (HRF k).out (show lo < m by omega)
          injection e' with e'
          injection e' with e1 e2
          subst e1 e2
          rw [HLL.out] at hl'
          injection hl' with hl'
          rw [hl']
          exact h0
        have d0 : ∀ k, (W k).cell? ⟨w.heap.size, 0, none⟩ = some (.int .i64 x.1) := fun k => cell_of_blk (HXF k).out rfl
        have d1 : ∀ k, (W k).cell? ⟨w.heap.size, 1, none⟩ = some (.int .i64 x.2.1) := fun k => cell_of_blk (HXF k).out rfl
        have d2 : ∀ k, (W k).cell? ⟨w.heap.size, 2, none⟩ = some (.int .i64 x.2.2) := fun k => cell_of_blk (HXF k).out rfl
        have HT := Lib.hid (order_any l x (W i0))
        clear hW hl
        refine Mix.wp_region_lex (fun w' => ∃ i, w' = W i) (by kernel_rfl) (by kernel_rfl) ⟨i0, h0⟩ ?_
        rw [h0]
        clear h0
        repeat (first | (refine Mix.lex_step rfl ?_; intro K hK; go_big_quiet_step (fail); refine Mix.lex_on hK ?_; clear hK K) | (refine Mix.lex_skip rfl ?_; simp only [Act.put, List.setIfInBounds_toArray, List.set_cons_zero, List.set_cons_succ]))
        refine Mix.lex_callv (f := 33) (lb := #[]) (args := [.agg #[.int .i64 l.1, .int .i64 l.2.1, .int .i64 l.2.2], .agg #[.int .i64 x.1, .int .i64 x.2.1, .int .i64 x.2.2]]) HT.out rfl rfl rfl rfl (fun _ _ => rfl) ?_
        rintro e3 w3 ⟨rfl, hb3⟩
        obtain ⟨j3, rfl⟩ := hC _ w3 hb3
        refine ⟨_, rfl, ⟨j3, rfl⟩, ?_⟩
        simp only [Act.put, List.setIfInBounds_toArray, List.set_cons_zero, List.set_cons_succ]
        repeat (first | (refine Mix.lex_step rfl ?_; intro K hK; go_big_quiet_step (fail); refine Mix.lex_on hK ?_; clear hK K) | (refine Mix.lex_skip rfl ?_; simp only [Act.put, List.setIfInBounds_toArray, List.set_cons_zero, List.set_cons_succ]))
        refine Mix.lex_nil ?_
        have HB9 := HWB j3
        have HX9 := HXF j3
        generalize W j3 = w9 at HB9 HX9 ⊢
        clear hC c0 c1 c2 d0 d1 d2 HRF HWB HXF HB HX HT
        have HF : Hid (((cf3 l x == 0) = true → ∃ l, L[lo]? = some l ∧ l.1 = x.1 ∧ l.2.1 = x.2.1) ∧ ((cf3 l x == 0) = false → ∀ l ∈ L, ¬ (l.1 = x.1 ∧ l.2.1 = x.2.1))) := by
          refine ⟨fun h => ⟨l, HLL.out, (cf3_eq l x).1 (beq_iff_eq.1 h)⟩, fun h l' hl' hk => ?_⟩
          have hne := beq_eq_false_iff_ne.1 h
          obtain ⟨i, hi, hie⟩ := List.getElem_of_mem hl'
          rcases Nat.lt_trichotomy i lo with h1 | h1 | h1
          · have h2 := HW.out.2.2.1 i l' h1 (by rw [List.getElem?_eq_getElem hi, hie])
            unfold bt at h2
            omega
          · subst h1
            have h2 := HLL.out
            rw [List.getElem?_eq_getElem hi, hie] at h2
            injection h2 with h2
            rw [h2] at hk
            exact hne ((cf3_eq l x).2 hk)
          · have h2 := List.pairwise_iff_getElem.1 HPW.out lo i (List.getElem?_eq_some_iff.1 HLL.out).1 hi h1
            rw [(List.getElem?_eq_some_iff.1 HLL.out).2, hie] at h2
            have h3 := HW.out.2.2.2 lo l (Nat.le_refl _) HLL.out
            unfold bt at h2 h3
            omega
        go_wp2
        go_ret2
        exact ⟨lo, _, rfl, HF.out.1, HF.out.2, HB9.out⟩
      · have e1 : decide ((lo : Int) < (m : Int)) = false := decide_eq_false (by omega)
        have HF : Hid (∀ l ∈ L, ¬ (l.1 = x.1 ∧ l.2.1 = x.2.1)) := fun l' hl' hk => by
          obtain ⟨i, hi, hie⟩ := List.getElem_of_mem hl'
          have h2 := HW.out.2.2.1 i l' (by have := HL.out; omega) (by rw [List.getElem?_eq_getElem hi, hie])
          unfold bt at h2
          omega
        go_upto_region 8 with fail
        go_quiet (fail)
        have HB9 := Lib.hid (below_drewN HB.out nq)
        generalize wr.drewN nq = w9 at *
        go_wp2
        go_ret2
        exact ⟨lo, false, rfl, fun h => (by cases h), fun _ => HF.out, HB9.out⟩
end Go.Proofs.Ytdhlbcbgbmgcjaa.Pt

/- Layer 13 (geo): the landed program's May, as a contract (it fills in a seat without Square). -/
namespace Go.Proofs.Ytdhlbcbgbmgcjaa.Ge
open Go.RowKit Rec

set_option maxRecDepth 100000 in
theorem may_any (x y : Int) (w : World) : Calls Try.prog 43 #[.int .i64 x, .int .i64 y] w fun e w' => e = .returned (.bool (decide (may x y))) ∧ w' = w := by
  by_cases h0 : 0 ≤ x
  · have d0 : decide (0 ≤ x) = true := decide_eq_true h0
    by_cases h1 : x < 67108864
    · have d1 : decide (x < 67108864) = true := decide_eq_true h1
      by_cases h2 : 0 ≤ y
      · have d2 : decide (0 ≤ y) = true := decide_eq_true h2
        have hm : decide (may x y) = decide (y < 67108864) := decide_eq_decide.2 ⟨fun h => h.2.2, fun h => ⟨⟨h0, h1⟩, h2, h⟩⟩
        rw [hm]
        clear hm
        go_enter Try.func43, Try.ntmps43
        go_wp2
        go_ret
        exact ⟨rfl, rfl⟩
      · have d2 : decide (0 ≤ y) = false := decide_eq_false h2
        have hm : decide (may x y) = false := decide_eq_false fun h => h2 h.2.1
        rw [hm]
        go_enter Try.func43, Try.ntmps43
        go_wp2
        go_ret
        exact ⟨rfl, rfl⟩
    · have d1 : decide (x < 67108864) = false := decide_eq_false h1
      have hm : decide (may x y) = false := decide_eq_false fun h => h1 h.1.2
      rw [hm]
      go_enter Try.func43, Try.ntmps43
      go_wp2
      go_ret
      exact ⟨rfl, rfl⟩
  · have d0 : decide (0 ≤ x) = false := decide_eq_false h0
    have hm : decide (may x y) = false := decide_eq_false fun h => h0 h.1.1
    rw [hm]
    go_enter Try.func43, Try.ntmps43
    go_wp2
    go_ret
    exact ⟨rfl, rfl⟩


end Go.Proofs.Ytdhlbcbgbmgcjaa.Ge
