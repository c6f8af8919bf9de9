/- Layer 14 (grid), the landed program: New, as a contract. -/
import Derived.Test.YtddlenbahidkaaaGdT
import Derived.Test.YtddlenbahidkaaaEnt
import Derived.Test.YtddlenbahidkaaaMix
import Derived.Shelf.RegionOpenPlain
import Derived.Deep.DeepCutAuto
namespace Go.Proofs.Ytddlenbahidkaaa.Gd
open Go.RowKit Rec Ints Ge Go.WideMaps Go.Maps Go.ChangeMaps

/-- A grid that is being made: the first k stops lie in its cells. -/
structure Mk (b : Nat) (v : Value) (l : List C) (s : Int) (w1 wr : World) (k : Nat) (D : DataW Unit) : Prop where
  own : wr.ownsGroups Try.prog 32 (b + 2) 3 .i64 b k D
  gm : GM l s k D
  blk : wr.heap[b + 1]? = some (.cells #[.int .i64 s, v, .map (some b)] 51)
  below : Below b w1 wr
  size : b + 2 ≤ wr.heap.size
  good : ∀ p ∈ l.take k, may p.1 p.2
theorem Mk.keep {b : Nat} {v : Value} {l : List C} {s : Int} {w1 wr w' : World} {k : Nat} {D : DataW Unit} (h : Mk b v l s w1 wr k D) (hb : Below wr.heap.size wr w') : Mk b v l s w1 w' k D :=
  ⟨Ent.groups_kept h.own fun j hj => hb.block j hj, h.gm, (hb.block _ (by have := h.size; omega)).trans h.blk, h.below.trans (hb.mono (by have := h.size; omega)), Nat.le_trans h.size hb.size, h.good⟩
theorem mk_start (w1 : World) (v : Value) (l : List C) (s : Int) : Mk w1.heap.size v l s w1 ((w1.alloc (.map #[] 0)).alloc (.cells #[.int .i64 s, v, .map (some w1.heap.size)] 51)) 0 (.map []) := by
  have e1 : (w1.alloc (.map #[] 0)).heap.size = w1.heap.size + 1 := by simp
  have hm : (w1.alloc (.map #[] 0)).heap[w1.heap.size]? = some (.map #[] 0) := heap_alloc_new _ _
  have hb2 := (Below.refl (w1.alloc (.map #[] 0)).heap.size (w1.alloc (.map #[] 0))).alloc (Nat.le_refl _) (.cells #[.int .i64 s, v, .map (some w1.heap.size)] 51)
  refine ⟨⟨#[], 0, (hb2.block _ (by omega)).trans hm, ⟨by simp, MapKept.stamped_empty 0, by simp⟩, Nat.le_refl _, rfl, by omega, by simp, by simp⟩, gm_start l s, ?_, ((Below.refl _ _).alloc (Nat.le_refl _) _).trans (hb2.mono (by omega)), by simp, by simp⟩
  rw [← e1]
  exact heap_alloc_new _ _

theorem Mk.step {b : Nat} {v : Value} {l : List C} {s : Int} {w1 wj wE wA w8 : World} {k : Nat} {D : DataW Unit} {p q : C} {u u' : Value} {zs : List Int} (h : Mk b v l s w1 wj k D) (hp : l[k]? = some p) (hm : may p.1 p.2) (hq : cq s p = q) (hqb : B64p q)
    (hat : D.atKey (kl q) .nil = rowDatum .i64 u zs) (hg1 : wj.grownBy wE (some b)) (hoi : wE.ownsInts (b + 2) 3 .i64 u zs) (hg2 : wE.grownBy wA u.ownBlock) (hoi' : wA.ownsInts (b + 2) 3 .i64 u' (zs ++ [(k : Int)])) (hg3 : wA.grownBy w8 (some b))
    (hown : w8.ownsGroups Try.prog 32 (b + 2) 3 .i64 b (k + 1) (D.put (kl q) (rowDatum .i64 u' (zs ++ [(k : Int)])))) : Mk b v l s w1 w8 (k + 1) (D.put (kl q) (rowDatum .i64 u' (zs ++ [(k : Int)]))) := by
  subst hq
  have hne : ∀ j, j < b + 2 → some j ≠ u.ownBlock := fun j hj e => by
    have := (hoi.1.lt j e.symm).1
    omega
  have hs1 := h.size
  have hs2 := hg1.size
  have hs3 := hg2.size
  have keep : ∀ j, j < b + 2 → j ≠ b → w8.heap[j]? = wj.heap[j]? := fun j hj hjb => ((hg3.block j (by omega) (fun e => hjb (Option.some.inj e))).trans (hg2.block j (by omega) (hne j hj))).trans (hg1.block j (by omega) (fun e => hjb (Option.some.inj e)))
  refine ⟨hown, gm_step h.gm hp hqb hat hoi hoi', (keep (b + 1) (by omega) (by omega)).trans h.blk, ?_, by have := hg3.size; omega, fun r hr => ?_⟩
  · exact ⟨(hg3.os.trans (hg2.os.trans hg1.os)).trans h.below.os, (hg3.tape.trans (hg2.tape.trans hg1.tape)).trans h.below.tape, (hg3.output.trans (hg2.output.trans hg1.output)).trans h.below.output, by have := h.below.size; have := hg3.size; omega, fun j hj => (keep j (by omega) (by omega)).trans (h.below.block j hj)⟩
  · rw [List.take_add_one, hp] at hr
    rcases List.mem_append.1 hr with h1 | h1
    · exact h.good r h1
    · simp only [Option.toList_some, List.mem_singleton] at h1
      subst h1
      exact hm
theorem build_one (u : Int) (W : World) : (Instr.buildSlice 34 1 #[(0, .int .i64 u)]).run Try.prog W = .ok (.slice (some ⟨W.heap.size, 0, none⟩) 1 1) (W.alloc (.cells #[.int .i64 u] 3)) := by kernel_rfl

set_option maxHeartbeats 1600000 in
set_option maxRecDepth 100000 in
theorem new_any (A : Option Addr) (n c : Nat) (l : List C) (s : Int) (w : World) (hr : RRow twoS w w.heap.size A n l) (hA : A = none → c = 0) (hn : n ≤ 4096) :
    Calls Try.prog 6 #[.slice A n c, .int .i64 s] w fun e w' => ∃ v, e = .returned (.tuple #[v, .int .i64 ((right l s : Nat) : Int)]) ∧ (right l s ≠ 0 → v = .pointer none) ∧ (right l s = 0 → ∃ a, v = .pointer (some a) ∧ Gr w' a l s) ∧ Below w.heap.size w w' := by
  have hl : l.length = n := hr.1
  have e0 : decide ((4096 : Int) < (n : Int)) = false := decide_eq_false (by omega)
  by_cases hs1 : s < 1
  · have hR : right l s = 2 := by unfold right; rw [if_neg (by omega), if_pos (.inl hs1)]
    have HR := Lib.hid hR
    clear hR
    have e1 : decide (s < 1) = true := decide_eq_true hs1
    clear hr
    go_enter Try.func6, Try.ntmps6
    go_wp2
    go_ret2
    rw [HR.out]
    exact ⟨_, rfl, fun _ => rfl, fun h => absurd h (by decide), Below.refl _ _⟩
  have e1 : decide (s < 1) = false := decide_eq_false hs1
  by_cases hs2 : 67108864 < s
  · have hR : right l s = 2 := by unfold right; rw [if_neg (by omega), if_pos (.inr hs2)]
    have HR := Lib.hid hR
    clear hR
    have e2 : decide (67108864 < s) = true := decide_eq_true hs2
    clear hr
    go_enter Try.func6, Try.ntmps6
    go_wp2
    go_ret2
    rw [HR.out]
    exact ⟨_, rfl, fun _ => rfl, fun h => absurd h (by decide), Below.refl _ _⟩
  have e2 : decide (67108864 < s) = false := decide_eq_false hs2
  have hR : right l s = if Good l then 0 else 2 := by unfold right; rw [if_neg (by omega), if_neg (by omega)]
  have HRT := Lib.hid hR
  have HL := Lib.hid hl
  have HR := Lib.hid hr
  have hmm := @run_makeMap Try.prog
  obtain ⟨i0i, hii, hiz, hisz, hibz⟩ := info_parts info_int
  have hiby : i0i.bytes ≤ 8 := by omega
  clear hR hr
  go_enter Try.func6, Try.ntmps6
  go_wp2_with fail
  refine (clone_any A n c w.heap.size l w HR.out hA (Nat.le_refl _) (by omega)).mono ?_
  rintro e3 w1 ⟨v1, rfl, ho1, hb1⟩
  obtain ⟨A1, c1, rfl, -⟩ := ownr_slice ho1
  have HO1 := Lib.hid ho1
  have HB1 := Lib.hid hb1
  have HM := Lib.hid (mk_start w1 (.slice A1 n c1) l s)
  clear ho1 hb1
  go_wp2
  generalize hbb : w1.heap.size = b at *
  go_loopw [27] (fun i wr => ∃ (k : Nat) (D : DataW Unit), k ≤ n ∧ i = .int .i64 (k : Int) ∧ Hid (Mk b (.slice A1 n c1) l s w1 wr k D))
    (fun i _ => n - (intOf i).toNat)
  case atStart => exact ⟨0, _, Nat.zero_le _, rfl, HM⟩
  case round =>
    clear HM
    obtain ⟨k, D, hk, rfl, HM⟩ := hrel
    by_cases hkn : k < n
    · have d1 : decide ((k : Int) < (n : Int)) = true := decide_eq_true (by omega)
      have HRr : Hid (RRow twoS wr w.heap.size A n l) := HR.out.below (HB1.out.trans (HM.out.below.mono (by have := HB1.out.size; omega)))
      have hwb : w.heap.size ≤ b := by have := HB1.out.size; omega
      have hsz := HM.out.size
      obtain ⟨b1, o1, p, rfl, hb1, hp, hc0, hc1⟩ := two_at HRr.out hkn
      have hc0' := hc0
      obtain ⟨p1, p2⟩ := p
      simp only at hc0 hc1
      have HP := Lib.hid hp
      clear hp
      go_wp2_with fail
      have HK2 := Lib.hid (HM.out.keep ((Below.refl wr.heap.size wr).alloc (Nat.le_refl _) (.cells #[.int .i64 p1, .int .i64 p2] 46)))
      have HN2 := Lib.hid (heap_alloc_new wr (.cells #[.int .i64 p1, .int .i64 p2] 46))
      have hlt2 : wr.heap.size < (wr.alloc (.cells #[.int .i64 p1, .int .i64 p2] 46)).heap.size := (Array.getElem?_eq_some_iff.1 HN2.out).1
      have HRF := Lib.hid (HRr.out.below (((Below.refl wr.heap.size wr).alloc (Nat.le_refl _) (.cells #[.int .i64 p1, .int .i64 p2] 46)).mono (by omega)))
      clear hc0 hc1 hc0' HM HRr
      generalize wr.alloc (.cells #[.int .i64 p1, .int .i64 p2] 46) = w2 at *
      generalize wr.heap.size = g2 at *
      clear wr
      cases hmay : decide (may p1 p2) with
      | false =>
        refine (may_any p1 p2 w2).mono ?_
        rw [hmay]
        rintro e4 w4 ⟨rfl, rfl⟩
        have HBE : Hid (Below w.heap.size w w4) := HB1.out.trans (HK2.out.below.mono hwb)
        have HRE : Hid (right l s = 2) := by
          unfold Hid
          rw [HRT.out, if_neg]
          intro hg
          have := hg _ (List.mem_of_getElem? HP.out)
          simp only at this
          rw [decide_eq_true this] at hmay
          cases hmay
        clear hmay
        go_wp2
        go_ret2
        rw [HRE.out]
        exact ⟨_, rfl, fun _ => rfl, fun h => absurd h (by decide), HBE.out⟩
      | true =>
        refine (may_any p1 p2 w2).mono ?_
        rw [hmay]
        rintro e4 w4 ⟨rfl, rfl⟩
        have hm : may p1 p2 := of_decide_eq_true hmay
        clear hmay
        have c1 : w4.cell? ⟨g2, 0, none⟩ = some (.int .i64 p1) := cell_of_blk HN2.out rfl
        have c2 : w4.cell? ⟨g2, 1, none⟩ = some (.int .i64 p2) := cell_of_blk HN2.out rfl
        have c3 : w4.cell? ⟨b + 1, 0, none⟩ = some (.int .i64 s) := cell_of_blk HK2.out.blk rfl
        have HMY := Lib.hid hm
        clear hm
        go_wp2_with fail
        refine (cell_any (b + 1) s p1 p2 w4 c3 (by have := HK2.out.size; omega) (by omega) HMY.out.1 HMY.out.2).mono ?_
        rintro e5 w5 ⟨rfl, hb5⟩
        obtain ⟨q1, hq1⟩ : ∃ q1, p1.tdiv s = q1 := ⟨_, rfl⟩
        obtain ⟨q2, hq2⟩ : ∃ q2, p2.tdiv s = q2 := ⟨_, rfl⟩
        rw [hq1, hq2]
        have HQ : Hid (cq s (p1, p2) = (q1, q2)) := by unfold Hid cq; rw [hq1, hq2]
        have HQB : Hid (B64p (q1, q2)) := by
          have hx := HMY.out.1
          have hy := HMY.out.2
          have a1 := Int.tdiv_nonneg hx.1 (by omega : 0 ≤ s)
          have a2 := Int.tdiv_le_self s hx.1
          have a3 := Int.tdiv_nonneg hy.1 (by omega : 0 ≤ s)
          have a4 := Int.tdiv_le_self s hy.1
          unfold Hid B64p B64
          simp only
          omega
        clear hq1 hq2
        have HK5 := Lib.hid (HK2.out.keep hb5)
        have HRF5 := Lib.hid (HRF.out.below (hb5.mono (by omega)))
        clear hb5 HRF HK2
        have HK6 := Lib.hid (HK5.out.keep ((Below.refl w5.heap.size w5).alloc (Nat.le_refl _) (.cells #[.int .i64 q1, .int .i64 q2] 32)))
        have HG6 : Hid (b + 2 ≤ w5.heap.size) := HK5.out.size
        have HN6 := Lib.hid (heap_alloc_new w5 (.cells #[.int .i64 q1, .int .i64 q2] 32))
        go_upto_region 12 with fail
        generalize w5.alloc (.cells #[.int .i64 q1, .int .i64 q2] 32) = w6 at *
        generalize w5.heap.size = g6 at *
        clear HK5 HN2 c1 c2 c3
        have hg6 : b + 2 ≤ g6 := HG6.out
        obtain ⟨ι, hne, W, i0, h0, hW, hC⟩ := Ent.fam_sub (fun x => x.heap[b + 1]? = some (.cells #[.int .i64 s, .slice A1 n c1, .map (some b)] 51) ∧ x.heap[g6]? = some (.cells #[.int .i64 q1, .int .i64 q2] 32)) w6 ⟨HK6.out.blk, HN6.out⟩
        have d1 : ∀ i, (W i).cell? ⟨b + 1, 2, none⟩ = some (.map (some b)) := fun i => cell_of_blk (hW i).1 rfl
        have d2 : ∀ i, (W i).cell? ⟨g6, 0, none⟩ = some (.int .i64 q1) := fun i => cell_of_blk (hW i).2 rfl
        have d3 : ∀ i, (W i).cell? ⟨g6, 1, none⟩ = some (.int .i64 q2) := fun i => cell_of_blk (hW i).2 rfl
        have HK7 : Hid (Mk b (.slice A1 n c1) l s w1 (W i0) k D) := by rw [← h0]; exact HK6.out.keep (Below.refl _ _).drew
        clear HK6 HN6
        refine Mix.wp_region_lex (fun w' => ∃ i, w' = W i) (by kernel_rfl) (by kernel_rfl) ⟨i0, h0⟩ ?_
        rw [h0]
        clear h0
        repeat (first | (refine Mix.lex_step rfl ?_; intro K hK; go_big_quiet_step (fail); refine Mix.lex_on hK ?_; clear hK K) | (refine Mix.lex_skip rfl ?_; simp only [Act.put, List.setIfInBounds_toArray, List.set_cons_zero, List.set_cons_succ]))
        have hb1 := (Below.refl (W i0).heap.size (W i0)).alloc (Nat.le_refl _) (.cells #[.int .i64 (k : Int)] 3)
        have hn1 := heap_alloc_new (W i0) (.cells #[.int .i64 (k : Int)] 3)
        obtain ⟨j1, hj1⟩ := hC _ ⟨(hb1.block _ (Array.getElem?_eq_some_iff.1 (hW i0).1).1).trans (hW i0).1, (hb1.block _ (Array.getElem?_eq_some_iff.1 (hW i0).2).1).trans (hW i0).2⟩
        refine Mix.lex_build (ps := #[(0, .int .i64 (k : Int))]) rfl (by simp [Act.eval]) (build_one (k : Int) (W i0)) rfl ⟨j1, hj1⟩ ?_
        have hM1 := HK7.out.keep hb1
        rw [hj1] at hn1 hM1 ⊢
        obtain ⟨g7, hg7⟩ : ∃ g7, (W i0).heap.size = g7 := ⟨_, rfl⟩
        have HBG7 : Hid (b + 2 ≤ g7) := by rw [← hg7]; exact HK7.out.size
        rw [hg7] at hn1 ⊢
        have HM1 := Lib.hid hM1
        have HN7 := Lib.hid hn1
        clear hb1 hM1 HK7 hj1 hg7 hn1
        simp only [Act.put, List.setIfInBounds_toArray, List.set_cons_zero, List.set_cons_succ]
        repeat (first | (refine Mix.lex_step rfl ?_; intro K hK; go_big_quiet_step (fail); refine Mix.lex_on hK ?_; clear hK K) | (refine Mix.lex_skip rfl ?_; simp only [Act.put, List.setIfInBounds_toArray, List.set_cons_zero, List.set_cons_succ]))
        obtain ⟨v, zs, st, wE, hrun, hat, hoi, hzl, hgE, hback⟩ := Ent.entry_at HM1.out.own lawCell mapCell noSlice (by unfold maxLen; omega) (key_cell (q1, q2) HQB.out)
        have hE1 : wE.heap[b + 1]? = some (.cells #[.int .i64 s, .slice A1 n c1, .map (some b)] 51) := (hgE.block _ (Array.getElem?_eq_some_iff.1 (hW j1).1).1 (fun e => by have := Option.some.inj e; omega)).trans (hW j1).1
        have hE2 : wE.heap[g6]? = some (.cells #[.int .i64 q1, .int .i64 q2] 32) := (hgE.block _ (Array.getElem?_eq_some_iff.1 (hW j1).2).1 (fun e => by have := Option.some.inj e; omega)).trans (hW j1).2
        have hg7 : b < g7 := by have := HBG7.out; omega
        have hE3 : wE.heap[g7]? = some (.cells #[.int .i64 (k : Int)] 3) := (hgE.block _ (Array.getElem?_eq_some_iff.1 HN7.out).1 (fun e => by have := Option.some.inj e; omega)).trans HN7.out
        obtain ⟨j2, rfl⟩ := hC wE ⟨hE1, hE2⟩
        refine Mix.lex_act rfl rfl (Ent.exec_entry rfl (by simp [Act.eval]) (by simp [Act.eval]) hrun) ⟨j2, rfl⟩ ?_
        simp only [Act.put, List.setIfInBounds_toArray, List.set_cons_zero, List.set_cons_succ]
        repeat (first | (refine Mix.lex_step rfl ?_; intro K hK; go_big_quiet_step (fail); refine Mix.lex_on hK ?_; clear hK K) | (refine Mix.lex_skip rfl ?_; simp only [Act.put, List.setIfInBounds_toArray, List.set_cons_zero, List.set_cons_succ]))
        have hc7 : (W j2).cell? ⟨g7, 0, none⟩ = some (.int .i64 (k : Int)) := cell_of_blk hE3 rfl
        obtain ⟨v', wA, hrunA, hoiA, hgA, hlocA⟩ := Ent.added_at 34 34 (b + 2) 3 i0i .i64 Try.underlying34 hii hiz hisz hiby v zs hoi g7 1 (k : Int) hc7 (WalkArith.wf_i64 (by omega)) (by omega) (by have := HM1.out.size; have := hgE.size; omega)
        have hA1 : wA.heap[b + 1]? = some (.cells #[.int .i64 s, .slice A1 n c1, .map (some b)] 51) := (hgA.block _ (Array.getElem?_eq_some_iff.1 hE1).1 (fun e => by have := (hoi.1.lt _ e.symm).1; omega)).trans hE1
        have hA2 : wA.heap[g6]? = some (.cells #[.int .i64 q1, .int .i64 q2] 32) := (hgA.block _ (Array.getElem?_eq_some_iff.1 hE2).1 (fun e => Ent.own_ne hoi hE2 (by decide) e.symm)).trans hE2
        obtain ⟨j3, rfl⟩ := hC wA ⟨hA1, hA2⟩
        refine Mix.lex_act rfl rfl (Ent.exec_append rfl (by simp [Act.eval]) (by simp [Act.eval]) hrunA) ⟨j3, rfl⟩ ?_
        simp only [Act.put, List.setIfInBounds_toArray, List.set_cons_zero, List.set_cons_succ]
        repeat (first | (refine Mix.lex_step rfl ?_; intro K hK; go_big_quiet_step (fail); refine Mix.lex_on hK ?_; clear hK K) | (refine Mix.lex_skip rfl ?_; simp only [Act.put, List.setIfInBounds_toArray, List.set_cons_zero, List.set_cons_succ]))
        obtain ⟨w8, hrun8, hown8, hg8⟩ := hback (W j3) v' (zs ++ [(k : Int)]) hgA hoiA (by simp; omega) (hlocA.imp id fun h => ⟨_, h, Nat.le_refl _⟩)
        have h81 : w8.heap[b + 1]? = some (.cells #[.int .i64 s, .slice A1 n c1, .map (some b)] 51) := (hg8.block _ (Array.getElem?_eq_some_iff.1 hA1).1 (fun e => by have := Option.some.inj e; omega)).trans hA1
        have h82 : w8.heap[g6]? = some (.cells #[.int .i64 q1, .int .i64 q2] 32) := (hg8.block _ (Array.getElem?_eq_some_iff.1 hA2).1 (fun e => by have := Option.some.inj e; omega)).trans hA2
        obtain ⟨j4, rfl⟩ := hC w8 ⟨h81, h82⟩
        have HM8 := Lib.hid (HM1.out.step HP.out HMY.out HQ.out HQB.out hat hgE hoi hgA hoiA hg8 hown8)
        refine Mix.lex_act0 rfl rfl (Ent.exec_stored rfl (by simp [Act.eval]) (by simp [Act.eval]; rfl) (by simp [Act.eval]) hrun8) ⟨j4, rfl⟩ ?_
        clear hrun8 hown8 hg8 h81 h82 hA1 hA2 hE1 hE2 hE3 hback hrunA hoiA hgA hlocA hrun hat hoi hzl hgE HM1 HN7 hc7
        simp only [Act.put]
        refine Mix.lex_nil ?_
        generalize W j4 = w9 at *
        clear hW hC d1 d2 d3 j1 j2 j3 j4 i0 W
        have hwk : IntKind.i64.wrap ((k : Int) + 1) = (k : Int) + 1 := IntWalk.i64_in _ ⟨by omega, by omega⟩
        go_wp2
        go_roundw
        case rel => exact ⟨k + 1, _, by omega, by go_num, HM8⟩
        case measure => simp [intOf]; omega
    · obtain rfl : k = n := by omega
      have d1 : decide ((k : Int) < (k : Int)) = false := decide_eq_false (by omega)
      have HRE : Hid (right l s = 0) := by
        unfold Hid
        rw [HRT.out, if_pos]
        intro q hq
        exact HM.out.good q (by rw [List.take_of_length_le (by omega)]; exact hq)
      have HGR : Hid (Gr wr ⟨b + 1, 0, none⟩ l s) := by
        have hM := HM.out
        have hsz := hM.size
        have hbw := HB1.out.size
        exact ⟨b + 1, A1, k, c1, b, b + 2, D, rfl, by omega, cell_of_blk hM.blk rfl, cell_of_blk hM.blk rfl, cell_of_blk hM.blk rfl,
          ((RRow.of_own (S := twoS) HO1.out).below (hM.below.mono (by omega))).more (by omega), HRE.out, hM.own, hM.gm⟩
      have HBE : Hid (Below w.heap.size w wr) := HB1.out.trans (HM.out.below.mono (by have := HB1.out.size; omega))
      go_wp2
      go_ret2
      rw [HRE.out]
      exact ⟨_, rfl, fun h => absurd rfl h, fun _ => ⟨_, rfl, HGR.out⟩, HBE.out⟩
end Go.Proofs.Ytddlenbahidkaaa.Gd
