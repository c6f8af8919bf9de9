/- Layer 14 (grid): the reference's Right, Cell and Near, as contracts. -/
import Derived.Test.YtddlenbahidkaaaGdO
import Derived.Test.YtddlenbahidkaaaGeR0
import Derived.Test.YtddlenbahidkaaaFam
import Derived.Test.YtddlenbahidkaaaMix
import Derived.Deep.QuietTactic
import Derived.BigQuiet
import Derived.WalkMore
namespace Go.Proofs.Ytddlenbahidkaaa.Gd
open Go.RowKit Rec Ints Ge

theorem good_no {l : List C} {k : Nat} {p : C} (h : l[k]? = some p) (hp : ¬ may p.1 p.2) : ¬ Good l := fun hg => hp (hg p (List.mem_of_getElem? h))
theorem good_all {l : List C} (h : ∀ j, j < l.length → ∃ p, l[j]? = some p ∧ may p.1 p.2) : Good l := fun q hq => by
  obtain ⟨j, hj, e⟩ := List.getElem_of_mem hq
  obtain ⟨p, h1, h2⟩ := h j hj
  rw [List.getElem?_eq_getElem hj, e] at h1
  injection h1 with h1
  rw [h1]
  exact h2
theorem right_3 {l : List C} {s : Int} (h : 4096 < l.length) : right l s = 3 := by unfold right; rw [if_pos h]
theorem right_2 {l : List C} {s : Int} (h : ¬ 4096 < l.length) (hs : s < 1 ∨ 67108864 < s) : right l s = 2 := by unfold right; rw [if_neg h, if_pos hs]
theorem right_no {l : List C} {s : Int} (h : ¬ 4096 < l.length) (hs : ¬ (s < 1 ∨ 67108864 < s)) (hg : ¬ Good l) : right l s = 2 := by unfold right; rw [if_neg h, if_neg hs, if_neg hg]
theorem right_0 {l : List C} {s : Int} (h : ¬ 4096 < l.length) (hs : ¬ (s < 1 ∨ 67108864 < s)) (hg : Good l) : right l s = 0 := by unfold right; rw [if_neg h, if_neg hs, if_pos hg]
theorem right_is {l : List C} {s : Int} (h : right l s = 0) : 1 ≤ s ∧ s ≤ 67108864 ∧ Good l := by
  unfold right at h
  split at h
  · cases h
  · split at h
    · cases h
    · split at h
      · exact ⟨by omega, by omega, by assumption⟩
      · cases h

set_option maxHeartbeats 800000 in
set_option maxRecDepth 100000 in
theorem refright_any (A : Option Addr) (n c B : Nat) (l : List C) (s : Int) (w : World) (hn : n ≤ 4398046511104) (h : RRow twoS w B A n l) :
    Calls Try.prog 7 #[.slice A n c, .int .i64 s] w fun e w' => e = .returned (.int .i64 ((right l s : Nat) : Int)) ∧ ∃ q, w' = w.drewN q := by
  have H := Lib.hid h
  have hl := h.len
  clear h
  by_cases h4 : 4096 < n
  · have hr : right l s = 3 := right_3 (by omega)
    rw [hr]
    have e0 : decide ((4096 : Int) < (n : Int)) = true := decide_eq_true (by omega)
    go_enter Try.func7, Try.ntmps7
    go_wp2
    go_ret
    exact ⟨rfl, 0, rfl⟩
  have e0 : decide ((4096 : Int) < (n : Int)) = false := decide_eq_false (by omega)
  by_cases h1 : s < 1
  · have hr : right l s = 2 := right_2 (by omega) (.inl h1)
    rw [hr]
    have e1 : decide (s < 1) = true := decide_eq_true h1
    go_enter Try.func7, Try.ntmps7
    go_wp2
    go_ret
    exact ⟨rfl, 0, rfl⟩
  have e1 : decide (s < 1) = false := decide_eq_false h1
  by_cases h2 : 67108864 < s
  · have hr : right l s = 2 := right_2 (by omega) (.inr h2)
    rw [hr]
    have e2 : decide (67108864 < s) = true := decide_eq_true h2
    go_enter Try.func7, Try.ntmps7
    go_wp2
    go_ret
    exact ⟨rfl, 0, rfl⟩
  have e2 : decide (67108864 < s) = false := decide_eq_false h2
  have HNO := Lib.hid (show ¬ Good l → right l s = 2 from right_no (by omega) (by omega))
  have HYES := Lib.hid (show Good l → right l s = 0 from right_0 (by omega) (by omega))
  have HAG : Hid (∀ j, j < 0 → ∃ p, l[j]? = some p ∧ may p.1 p.2) := fun j hj => by omega
  go_enter Try.func7, Try.ntmps7
  go_wp2
  go_loopw [5] (fun i wr => ∃ k q : Nat, k ≤ n ∧ i = .int .i64 (k : Int) ∧ Hid (∀ j, j < k → ∃ p, l[j]? = some p ∧ may p.1 p.2) ∧ Hid (wr = w.drewN q)) (fun i _ => n - (intOf i).toNat)
  case atStart => exact ⟨0, 0, Nat.zero_le _, rfl, HAG, rfl⟩
  case round =>
    clear HAG
    obtain ⟨k, q, hk, rfl, HA, HW⟩ := hrel
    have hwr : RRow twoS wr B A n l := by rw [HW.out]; exact H.out.drewN q
    by_cases hlt : k < n
    · obtain ⟨b, o, p, rfl, _, hp, c0, c1⟩ := two_at hwr hlt
      clear hwr
      obtain ⟨px, py⟩ := p
      simp only at c0 c1
      cases hm : decide (may px py) with
      | true =>
        have HM : Hid (∀ wx : World, Calls Try.prog 14 #[.int .i64 px, .int .i64 py] wx fun e w' => e = .returned (.bool true) ∧ w' = wx) := fun wx => by have := refmay_any px py wx; rw [hm] at this; exact this
        have HA2 : Hid (∀ j, j < k + 1 → ∃ p, l[j]? = some p ∧ may p.1 p.2) := fun j hj => by
          rcases Nat.lt_or_ge j k with h | h
          · exact HA.out j h
          · obtain rfl : j = k := by omega
            exact ⟨_, hp, of_decide_eq_true hm⟩
        clear hp HA hm
        go_wp2
        go_quiet ((go_at_call 14; refine Calls.quiet_of_same (HM.out _)))
        go_wp2
        go_roundw
        case rel => exact ⟨k + 1, q + nq, by omega, by go_num, HA2, by unfold Hid; rw [HW.out]; exact World.drewN_drewN w q nq⟩
        case measure => simp [intOf]; omega
      | false =>
        have HM : Hid (∀ wx : World, Calls Try.prog 14 #[.int .i64 px, .int .i64 py] wx fun e w' => e = .returned (.bool false) ∧ w' = wx) := fun wx => by have := refmay_any px py wx; rw [hm] at this; exact this
        have HR := Lib.hid (HNO.out (good_no hp (of_decide_eq_false hm)))
        clear hp HA hm
        go_wp2
        go_quiet ((go_at_call 14; refine Calls.quiet_of_same (HM.out _)))
        go_wp2
        go_ret
        exact ⟨by rw [HR.out]; rfl, q + nq, by rw [HW.out]; exact World.drewN_drewN w q nq⟩
    · have HR := Lib.hid (HYES.out (good_all fun j hj => HA.out j (by omega)))
      go_wp2
      go_ret
      exact ⟨by rw [HR.out]; rfl, q, HW.out⟩

theorem cell_next {l : List C} {s : Int} {q : C} {k : Nat} :
    ((List.range (k + 1)).filter fun i => decide ((l.getD i (0, 0)).1.tdiv s = q.1) && decide ((l.getD i (0, 0)).2.tdiv s = q.2)) = ((List.range k).filter fun i => decide ((l.getD i (0, 0)).1.tdiv s = q.1) && decide ((l.getD i (0, 0)).2.tdiv s = q.2)) ++ (if (decide ((l.getD k (0, 0)).1.tdiv s = q.1) && decide ((l.getD k (0, 0)).2.tdiv s = q.2)) = true then [k] else []) := by
  rw [List.range_succ, List.filter_append]
  congr 1
  by_cases h : (decide ((l.getD k (0, 0)).1.tdiv s = q.1) && decide ((l.getD k (0, 0)).2.tdiv s = q.2)) = true
  · rw [if_pos h]; simpa using h
  · rw [if_neg h]; simpa using h
/-- The first ones of a cell. -/
def cellK (l : List C) (s : Int) (q : C) (k : Nat) : List Nat := (List.range k).filter fun i => decide ((l.getD i (0, 0)).1.tdiv s = q.1) && decide ((l.getD i (0, 0)).2.tdiv s = q.2)
theorem cellK_yes {l : List C} {s : Int} {q p : C} {k : Nat} (hp : l[k]? = some p) (h1 : p.1.tdiv s = q.1) (h2 : p.2.tdiv s = q.2) : cellK l s q (k + 1) = cellK l s q k ++ [k] := by
  unfold cellK
  rw [cell_next, List.getD_eq_getElem?_getD, hp, Option.getD_some, if_pos (by rw [decide_eq_true h1, decide_eq_true h2]; rfl)]
theorem cellK_no {l : List C} {s : Int} {q p : C} {k : Nat} (hp : l[k]? = some p) (h : ¬ (p.1.tdiv s = q.1 ∧ p.2.tdiv s = q.2)) : cellK l s q (k + 1) = cellK l s q k := by
  unfold cellK
  rw [cell_next, List.getD_eq_getElem?_getD, hp, Option.getD_some, if_neg (by rw [Bool.and_eq_true, decide_eq_true_eq, decide_eq_true_eq]; exact h), List.append_nil]
theorem cellK_len (l : List C) (s : Int) (q : C) (k : Nat) : (cellK l s q k).length ≤ k := by
  unfold cellK
  have := List.length_filter_le (fun i => decide ((l.getD i (0, 0)).1.tdiv s = q.1) && decide ((l.getD i (0, 0)).2.tdiv s = q.2)) (List.range k)
  rwa [List.length_range] at this
theorem tdiv_in {u s : Int} (hu : B64 u) (hs : 1 ≤ s) : IntKind.i64.wrap (u.tdiv s) = u.tdiv s := by
  refine IntWalk.i64_in _ ?_
  have h1 := Int.natAbs_tdiv u s
  have h2 : u.natAbs / s.natAbs ≤ u.natAbs := Nat.div_le_self _ _
  have h4 : (u.tdiv s).natAbs = u.natAbs / s.natAbs := h1
  obtain ⟨a, b⟩ := hu
  by_cases h0 : 0 ≤ u
  · have h3 := Int.tdiv_nonneg h0 (by omega : (0 : Int) ≤ s)
    omega
  · have h3 := Int.tdiv_nonneg (by omega : 0 ≤ -u) (by omega : (0 : Int) ≤ s)
    rw [Int.neg_tdiv] at h3
    omega

set_option maxHeartbeats 1600000 in
set_option maxRecDepth 100000 in
theorem refcell_any (A : Option Addr) (n c : Nat) (l : List C) (s : Int) (q : C) (w : World) (hn : n ≤ 1073741824) (hs : 1 ≤ s) (hl : ∀ p ∈ l, B64p p) (h : RRow twoS w w.heap.size A n l) :
    Calls Try.prog 11 #[.slice A n c, .int .i64 s, .agg #[.int .i64 q.1, .int .i64 q.2]] w fun e w' => ∃ v, e = .returned v ∧ InTo w.heap.size w (nums (Gd.cell l s q)) v w' := by
  obtain ⟨i0, hi, hz0, hz1, hz2⟩ := info_of info_int
  obtain ⟨qx, qy⟩ := q
  simp only
  have H := Lib.hid h
  have HLN := Lib.hid h.len
  have HLB := Lib.hid hl
  have hs0 : ¬ (s = 0) := by omega
  have HB0 : Hid (Below w.heap.size w (w.alloc (.cells #[.int .i64 qx, .int .i64 qy] 32))) := (Below.refl _ _).alloc (Nat.le_refl _) _
  have HK0 := Lib.hid (heap_alloc_new w (.cells #[.int .i64 qx, .int .i64 qy] 32))
  clear h hl
  go_enter Try.func11, Try.ntmps11
  go_wp2
  go_loopw [7, 8] (fun v i wr => ∃ k : Nat, k ≤ n ∧ i = .int .i64 (k : Int) ∧ Hid (wr.ownsRow (w.heap.size + 1) 3 1 v (cellK l s (qx, qy) k).length (intS.flat (nums (cellK l s (qx, qy) k)))) ∧ Hid (Below w.heap.size w wr) ∧ Hid (wr.heap[w.heap.size]? = some (.cells #[.int .i64 qx, .int .i64 qy] 32 (0, 0)))) (fun _ i _ => n - (intOf i).toNat)
  case atStart => exact ⟨0, Nat.zero_le _, rfl, World.ownsRow_nil _ _ _ _, HB0, HK0⟩
  case round =>
    obtain ⟨k, hk, rfl, HO, HB, HK⟩ := hrel
    clear HB0 HK0
    by_cases hlt : k < n
    · obtain ⟨b, o, p, rfl, hbb, hp, c0, c1⟩ := two_at (H.out.below HB.out) hlt
      have hpb := HLB.out p (List.mem_of_getElem? hp)
      obtain ⟨px, py⟩ := p
      simp only at c0 c1
      have y0 : wr.cell? ⟨w.heap.size, 0, none⟩ = some (.int .i64 qx) := cell_of_blk HK.out rfl
      have y1 : wr.cell? ⟨w.heap.size, 1, none⟩ = some (.int .i64 qy) := cell_of_blk HK.out rfl
      have w1 := tdiv_in hpb.1 hs
      have w2 := tdiv_in hpb.2 hs
      obtain ⟨u, hu⟩ : ∃ u, px.tdiv s = u := ⟨_, rfl⟩
      obtain ⟨t, ht⟩ : ∃ t, py.tdiv s = t := ⟨_, rfl⟩
      simp only at w1 w2
      rw [hu] at w1
      rw [ht] at w2
      have HLK := Lib.hid (cellK_len l s (qx, qy) k)
      by_cases g1 : u = qx
      · by_cases g2 : t = qy
        · subst g1 g2
          have HN := Lib.hid (cellK_yes (s := s) (q := (u, t)) hp hu ht)
          obtain ⟨A', c', rfl, -⟩ := ownr_slice HO.out
          clear hp hpb
          go_wp2
          go_quiet (fail)
          generalize hwr2 : wr.drewN nq = wr2
          have HO2 : Hid (wr2.ownsRow (w.heap.size + 1) 3 1 (.slice A' (cellK l s (u, t) k).length c') (cellK l s (u, t) k).length (intS.flat (nums (cellK l s (u, t) k)))) := by rw [← hwr2]; exact HO.out
          have HB2 : Hid (Below w.heap.size w wr2) := by rw [← hwr2]; exact below_drewN HB.out _
          have HK2 : Hid (wr2.heap[w.heap.size]? = some (.cells #[.int .i64 u, .int .i64 t] 32 (0, 0))) := by rw [← hwr2]; exact HK.out
          clear hwr2 y0 y1 c0 c1
          have hsz : w.heap.size < wr2.heap.size := (Array.getElem?_eq_some_iff.1 HK2.out).1
          have HDO := Lib.hid (ownr_alloc HO2.out (.cells #[.int .i64 (k : Int)] 3))
          have HNEW := Lib.hid (new_int wr2 (k : Int) 3)
          have hlk := HLK.out
          go_wp2_with (at_builtin; go_loud (refine push_rec intS rfl (.tmp 37) (.tmp 39) 34 rfl (w.heap.size + 1) 3 i0 (.int .i64 0) 8 Try.underlying34 hi hz0 rfl hz1 hz2 _ (cellK l s (u, t) k).length (nums (cellK l s (u, t) k)) rfl HDO.out ⟨wr2.heap.size, 0, none⟩ (k : Int) rfl HNEW.out (by omega) (by omega) (by simp; omega) ?_); intro v2 w2 hown2 _ hb2; have HO3 := Lib.hid hown2; have HB3 := Lib.hid (((Below.refl _ _).alloc (by omega) _).trans hb2); clear hown2 hb2)
          go_wp2
          go_roundw
          case rel =>
            refine ⟨k + 1, by omega, by go_num, ?_, ?_, ?_⟩
            · unfold Hid
              rw [HN.out, nums_cat, List.length_append]
              exact HO3.out
            · exact HB2.out.trans (HB3.out.mono (by omega))
            · exact (HB3.out.block _ (by omega)).trans HK2.out
          case measure => simp [intOf]; omega
        · have f1 : (qx == qx) = true := beq_self_eq_true _
          have f2 : (t == qy) = false := beq_eq_false_iff_ne.2 g2
          subst g1
          have HN := Lib.hid (cellK_no (s := s) (q := (u, qy)) hp (by intro hh; exact g2 (ht.symm.trans hh.2)))
          clear hp hpb
          go_wp2
          go_quiet (fail)
          go_wp2
          go_roundw
          case rel => exact ⟨k + 1, by omega, by go_num, by unfold Hid; rw [HN.out]; exact HO.out, below_drewN HB.out _, HK.out⟩
          case measure => simp [intOf]; omega
      · have f1 : (u == qx) = false := beq_eq_false_iff_ne.2 g1
        have HN := Lib.hid (cellK_no (s := s) (q := (qx, qy)) hp (by intro hh; exact g1 (hu.symm.trans hh.1)))
        clear hp hpb
        go_wp2
        go_quiet (fail)
        go_wp2
        go_roundw
        case rel => exact ⟨k + 1, by omega, by go_num, by unfold Hid; rw [HN.out]; exact HO.out, below_drewN HB.out _, HK.out⟩
        case measure => simp [intOf]; omega
    · obtain rfl : k = n := by omega
      go_wp2
      go_ret
      refine ⟨_, rfl, InTo.of_own (n := (cellK l s (qx, qy) k).length) (e := 3) ?_ HB.out⟩
      have e : Gd.cell l s (qx, qy) = cellK l s (qx, qy) k := by unfold Gd.cell cellK; rw [HLN.out]
      rw [e]
      exact ownr_base HO.out (by omega)
end Go.Proofs.Ytddlenbahidkaaa.Gd
