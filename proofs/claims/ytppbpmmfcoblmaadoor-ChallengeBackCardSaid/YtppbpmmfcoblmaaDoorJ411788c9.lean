/- Lemmas that the proof stands on, in build order: RgR TokG. -/
import Derived.Deep.RegionHeld3
import Derived.Test.YtppbpmmfcoblmaaDoorJ16496690
import Derived.Test.YtppbpmmfcoblmaaDoorJ33e5eb7a
import Derived.Test.YtppbpmmfcoblmaaDoorJ364097e7
/- Layer 9 (ring): the program's Right, as a contract. -/
namespace Go.Proofs.YtppbpmmfcoblmaaDoor.Rg
open Go.RowKit Slc

set_option maxHeartbeats 1600000 in
set_option maxRecDepth 100000 in
theorem right_any (keep : Int) (A : Option Addr) (n c B : Nat) (K : List Kp) (w : World) (h : KRow w B A n K) (hB : B ≤ w.heap.size) (hn : n ≤ 4398046511104) :
    Calls Tryd.prog 48 #[.agg #[.int .i64 keep, .slice A n c]] w fun x w' => x = .returned (.bool (rt keep (ls K))) ∧ Below w.heap.size w w' := by
  have H := Lib.hid h
  have HBB := Lib.hid hB
  have hlen := h.len
  have HB0 : Hid (Below w.heap.size w (w.alloc (.cells #[.int .i64 keep, .slice A n c] 24))) := (Below.refl _ _).alloc (Nat.le_refl _) _
  have c0 : (w.alloc (.cells #[.int .i64 keep, .slice A n c] 24)).cell? ⟨w.heap.size, 0, none⟩ = some (.int .i64 keep) := cell_of_blk (heap_alloc_new w _) rfl
  have c1 : (w.alloc (.cells #[.int .i64 keep, .slice A n c] 24)).cell? ⟨w.heap.size, 1, none⟩ = some (.slice A n c) := cell_of_blk (heap_alloc_new w _) rfl
  clear h hB
  by_cases g0 : keep < 1
  · have hd : decide (keep < 1) = true := decide_eq_true g0
    have hf : rt keep (ls K) = false := rt_no fun hh => by have := hh.1; omega
    rw [hf]
    go_enter Tryd.func48, Tryd.ntmps48
    go_wp2
    go_ret
    exact ⟨rfl, HB0.out⟩
  by_cases g1 : 16 < keep
  · have hd0 : decide (keep < 1) = false := decide_eq_false g0
    have hd : decide (16 < keep) = true := decide_eq_true g1
    have hf : rt keep (ls K) = false := rt_no fun hh => by have := hh.2.1; omega
    rw [hf]
    go_enter Tryd.func48, Tryd.ntmps48
    go_wp2
    go_ret
    exact ⟨rfl, HB0.out⟩
  by_cases g2 : (n : Int) < 1
  · have hd0 : decide (keep < 1) = false := decide_eq_false g0
    have hd1 : decide (16 < keep) = false := decide_eq_false g1
    have hd : decide ((n : Int) < 1) = true := decide_eq_true g2
    have hf : rt keep (ls K) = false := rt_no fun hh => by have := hh.2.2.1; rw [ls_len] at this; omega
    rw [hf]
    go_enter Tryd.func48, Tryd.ntmps48
    go_wp2
    go_ret
    exact ⟨rfl, HB0.out⟩
  by_cases g3 : keep < (n : Int)
  · have hd0 : decide (keep < 1) = false := decide_eq_false g0
    have hd1 : decide (16 < keep) = false := decide_eq_false g1
    have hd2 : decide ((n : Int) < 1) = false := decide_eq_false g2
    have hd : decide (keep < (n : Int)) = true := decide_eq_true g3
    have hf : rt keep (ls K) = false := rt_no fun hh => by have := hh.2.2.2.1; rw [ls_len] at this; omega
    rw [hf]
    go_enter Tryd.func48, Tryd.ntmps48
    go_wp2
    go_ret
    exact ⟨rfl, HB0.out⟩
  have hd0 : decide (keep < 1) = false := decide_eq_false g0
  have hd1 : decide (16 < keep) = false := decide_eq_false g1
  have hd2 : decide ((n : Int) < 1) = false := decide_eq_false g2
  have hd3 : decide (keep < (n : Int)) = false := decide_eq_false g3
  go_enter Tryd.func48, Tryd.ntmps48
  go_wp2_with fail
  have hb1 : Below (w.heap.size + 1) (w.alloc (.cells #[.int .i64 keep, .slice A n c] 24)) (w.alloc (.cells #[.int .i64 keep, .slice A n c] 24)) := Below.refl _ _
  have HB1 := Lib.hid hb1
  have HC := Lib.hid (And.intro c0 c1)
  have HS1 : Hid ((w.alloc (.cells #[.int .i64 keep, .slice A n c] 24)).heap.size = w.heap.size + 1) := by unfold Hid; simp
  have HK1 := Lib.hid (H.out.below (HB0.out.mono HBB.out))
  generalize w.alloc (.cells #[.int .i64 keep, .slice A n c] 24) = w1 at *
  clear c0 c1 hb1
  go_loopw [3, 4, 30] (fun _ _ i wr => ∃ t : Nat, t ≤ n ∧ i = .int .i64 (t : Int) ∧ Hid (∀ j k, j < t → (ls K)[j]? = some k → gd (ls K) j k) ∧ Hid (Below (w.heap.size + 1) w1 wr)) (fun _ _ i _ => n - (intOf i).toNat)
  case atStart => exact ⟨0, Nat.zero_le _, rfl, Lib.hid (fun j k h => absurd h (by omega)), HB1⟩
  case round =>
    obtain ⟨t, ht, rfl, HG, HB⟩ := hrel
    have c1 := (HB.out.cell (p := ⟨w.heap.size, 1, none⟩) (by show w.heap.size < _; omega)).trans HC.out.2
    have HBW : Hid (Below w.heap.size w wr) := HB0.out.trans (HB.out.mono (by omega))
    by_cases hlt : t < n
    · obtain ⟨b, o, k, rfl, hbb, hk, hok, k0, k1⟩ := (HK1.out.below (HB.out.mono (by have := HBB.out; omega))).at hlt
      have hlt' : (t : Int) < (n : Int) := by omega
      have HOK := Lib.hid hok
      have HKA := Lib.hid (ls_at hk)
      clear hk hok
      obtain ⟨e, pA, pn, pc, xs⟩ := k
      simp only at k0 k1
      have HBA : Hid (Below w.heap.size w (wr.alloc (.cells #[.int .i64 e, .slice pA pn pc] 57))) := HBW.out.alloc HBW.out.size _
      by_cases q0 : pn = 32
      · subst q0
        by_cases q1 : e < 1
        · have hd5 : decide (e < 1) = true := decide_eq_true q1
          have hf : Hid (rt keep (ls K) = false) := rt_no fun hh => by
            have h1 := (hh.2.2.2.2 t _ HKA.out).2.1
            simp only at h1
            omega
          go_wp2
          go_ret
          exact ⟨congrArg (fun b => Ending.returned (.bool b)) hf.out.symm, HBA.out⟩
        by_cases q2 : 1048576 < e
        · have hd5 : decide (e < 1) = false := decide_eq_false q1
          have hd6 : decide (1048576 < e) = true := decide_eq_true q2
          have hf : Hid (rt keep (ls K) = false) := rt_no fun hh => by
            have h1 := (hh.2.2.2.2 t _ HKA.out).2.2.1
            simp only at h1
            omega
          go_wp2
          go_ret
          exact ⟨congrArg (fun b => Ending.returned (.bool b)) hf.out.symm, HBA.out⟩
        have hd5 : decide (e < 1) = false := decide_eq_false q1
        have hd6 : decide (1048576 < e) = false := decide_eq_false q2
        by_cases q3 : t = 0
        · subst q3
          rw [Nat.zero_mul, Nat.add_zero] at k0 k1
          have HG2 : Hid (∀ j k, j < 0 + 1 → (ls K)[j]? = some k → gd (ls K) j k) := fun j k hj hk => by
            obtain rfl : j = 0 := by omega
            rw [HKA.out] at hk
            injection hk with hk
            subst hk
            have h2 := HOK.out.len
            simp only at h2
            exact ⟨by simp only; omega, by simp only; omega, by simp only; omega, fun h => absurd h (by omega)⟩
          have HXB := Lib.hid HBA.out
          have HXN : Hid (Below (w.heap.size + 1) w1 (wr.alloc (.cells #[.int .i64 e, .slice pA 32 pc] 57))) := HB.out.alloc (by have := HB.out.size; have := HS1.out; omega) _
          have x0 : (wr.alloc (.cells #[.int .i64 e, .slice pA 32 pc] 57)).cell? ⟨wr.heap.size, 0, none⟩ = some (.int .i64 e) := cell_of_blk (heap_alloc_new wr _) rfl
          have x1 : (wr.alloc (.cells #[.int .i64 e, .slice pA 32 pc] 57)).cell? ⟨w.heap.size, 1, none⟩ = some (.slice (some ⟨b, o, none⟩) n c) := (HXN.out.cell (p := ⟨w.heap.size, 1, none⟩) (by show w.heap.size < _; omega)).trans HC.out.2
          have hd7 : decide ((0 : Int) < 0) = false := by decide
          go_wp2_with fail
          generalize wr.alloc (.cells #[.int .i64 e, .slice pA 32 pc] 57) = wx at *
          go_quiet (fail)
          have HXB1 := Lib.hid (below_drewN (q := nq) HXB.out)
          have HXN1 := Lib.hid (below_drewN (q := nq) HXN.out)
          clear HXB HXN HBA x0 x1
          generalize wx.drewN nq = wy at *
          go_wp2
          go_roundw
          case rel => exact ⟨0 + 1, by omega, by go_num, HG2, HXN1⟩
          case measure => simp [intOf]; omega
        · obtain ⟨q, hq⟩ : ∃ q, K[t - 1]? = some q := ⟨_, List.getElem?_eq_getElem (by omega)⟩
          obtain ⟨b', o', e1, -, hc⟩ := (HK1.out.below (HB.out.mono (by have := HBB.out; omega))).at_ (by omega)
          injection e1 with e1
          injection e1 with e1 e2
          subst e1 e2
          have k2 : (wr.alloc (.cells #[.int .i64 e, .slice pA 32 pc] 57)).cell? ⟨b, o + (t - 1) * 2, none⟩ = some (.int .i64 q.e) := ((Below.refl wr.heap.size wr).alloc (Nat.le_refl _) _).cell (p := ⟨b, o + (t - 1) * 2, none⟩) (by have h1 := HBW.out.size; have h2 := HBB.out; show b < _; omega) |>.trans (hc (t - 1) q hq 0 (by omega))
          have m1 : IntKind.i64.wrap ((t : Int) - 1) = (t : Int) - 1 := IntWalk.i64_in _ ⟨by omega, by omega⟩
          have p1 : (0 : Int) ≤ (t : Int) - 1 := by omega
          have p2 : (t : Int) - 1 < (n : Int) := by omega
          have n1 : ((t : Int) - 1).toNat = t - 1 := by omega
          have hd7 : decide ((0 : Int) < (t : Int)) = true := by simp; omega
          have hd7' : decide (0 < t) = true := by simp; omega
          have HXB := Lib.hid HBA.out
          have HXN : Hid (Below (w.heap.size + 1) w1 (wr.alloc (.cells #[.int .i64 e, .slice pA 32 pc] 57))) := HB.out.alloc (by have := HB.out.size; have := HS1.out; omega) _
          have x0 : (wr.alloc (.cells #[.int .i64 e, .slice pA 32 pc] 57)).cell? ⟨wr.heap.size, 0, none⟩ = some (.int .i64 e) := cell_of_blk (heap_alloc_new wr _) rfl
          have x1 : (wr.alloc (.cells #[.int .i64 e, .slice pA 32 pc] 57)).cell? ⟨w.heap.size, 1, none⟩ = some (.slice (some ⟨b, o, none⟩) n c) := (HXN.out.cell (p := ⟨w.heap.size, 1, none⟩) (by show w.heap.size < _; omega)).trans HC.out.2
          have HQ := HG.out (t - 1) (q.e, q.p.xs) (by omega) (ls_at hq)
          have HW := IntWalk.i64_in (q.e + 1) ⟨by have := HQ.2.1; simp only at this; omega, by have := HQ.2.2.1; simp only at this; omega⟩
          by_cases q4 : e = q.e + 1
          · have hd8 : (e != q.e + 1) = false := by rw [q4]; simp
            have Q4 := Lib.hid q4
            clear q4
            go_wp2_with fail
            generalize wr.alloc (.cells #[.int .i64 e, .slice pA 32 pc] 57) = wx at *
            have HG2 : Hid (∀ j k, j < t + 1 → (ls K)[j]? = some k → gd (ls K) j k) := fun j k hj hk => by
              by_cases hjt : j < t
              · exact HG.out j k hjt hk
              · obtain rfl : j = t := by omega
                rw [HKA.out] at hk
                injection hk with hk
                subst hk
                have h2 := HOK.out.len
                simp only at h2
                refine ⟨by simp only; omega, by simp only; omega, by simp only; omega, fun _ r hr => ?_⟩
                rw [ls_at hq] at hr
                injection hr with hr
                subst hr
                exact Q4.out
            go_quiet (fail)
            have HXB1 := Lib.hid (below_drewN (q := nq) HXB.out)
            have HXN1 := Lib.hid (below_drewN (q := nq) HXN.out)
            clear HXB HXN HBA x0 x1 k2
            generalize wx.drewN nq = wy at *
            go_wp2
            go_roundw
            case rel => exact ⟨t + 1, by omega, by go_num, HG2, HXN1⟩
            case measure => simp [intOf]; omega
          · have hd8 : (e != q.e + 1) = true := bne_iff_ne.2 q4
            have Q4 := Lib.hid q4
            clear q4
            go_wp2_with fail
            generalize wr.alloc (.cells #[.int .i64 e, .slice pA 32 pc] 57) = wx at *
            have hf : Hid (rt keep (ls K) = false) := rt_no fun hh => Q4.out ((hh.2.2.2.2 t _ HKA.out).2.2.2 (by omega) _ (ls_at hq))
            go_quiet (fail)
            have HXB1 := Lib.hid (below_drewN (q := nq) HXB.out)
            have HXN1 := Lib.hid (below_drewN (q := nq) HXN.out)
            clear HXB HXN HBA x0 x1 k2
            generalize wx.drewN nq = wy at *
            go_wp2
            go_ret
            exact ⟨congrArg (fun b => Ending.returned (.bool b)) hf.out.symm, HXB1.out⟩
      · have hd4 : decide ((pn : Int) = 32) = false := by simp; omega
        have hf : Hid (rt keep (ls K) = false) := rt_no fun hh => by
          have h1 := (hh.2.2.2.2 t _ HKA.out).1
          have h2 := HOK.out.len
          simp only at h1 h2
          omega
        by_cases q1 : e < 1
        · have hd5 : decide (e < 1) = true := decide_eq_true q1
          go_wp2
          go_ret
          exact ⟨congrArg (fun b => Ending.returned (.bool b)) hf.out.symm, HBA.out⟩
        have hd5 : decide (e < 1) = false := decide_eq_false q1
        by_cases q2 : 1048576 < e
        · have hd6 : decide (1048576 < e) = true := decide_eq_true q2
          go_wp2
          go_ret
          exact ⟨congrArg (fun b => Ending.returned (.bool b)) hf.out.symm, HBA.out⟩
        have hd6 : decide (1048576 < e) = false := decide_eq_false q2
        go_wp2
        go_ret
        exact ⟨congrArg (fun b => Ending.returned (.bool b)) hf.out.symm, HBA.out⟩
    · obtain rfl : t = n := by omega
      have hf : Hid (rt keep (ls K) = true) := rt_yes ⟨by omega, by omega, by rw [ls_len]; omega, by rw [ls_len]; omega, fun j k hj => HG.out j k (by have := (List.getElem?_eq_some_iff.1 hj).1; rw [ls_len] at this; omega) hj⟩
      go_wp2
      go_ret
      exact ⟨congrArg (fun b => Ending.returned (.bool b)) hf.out.symm, HBW.out⟩
end Go.Proofs.YtppbpmmfcoblmaaDoor.Rg

/- Layer 10 (token): the program's Issue, as a contract. -/
namespace Go.Proofs.YtppbpmmfcoblmaaDoor.Tok
open Go.RowKit Var Fld Frm Sha Hmc Rg

theorem now_last {keep : Int} {E : List Kl} (h : RtP keep E) : fnd E (now E) = some (lastK E) ∧ (lastK E).length = 32 := by
  have h1 := h.2.2.1
  obtain ⟨k, hk⟩ : ∃ k, E[E.length - 1]? = some k := ⟨_, List.getElem?_eq_getElem (by omega)⟩
  rw [now_at hk, lastK_at hk]
  exact ⟨fnd_at h hk, (h.2.2.2.2 _ _ hk).1⟩

set_option maxHeartbeats 3200000 in
set_option maxRecDepth 100000 in
theorem issue_any (keep : Int) (A : Option Addr) (n c : Nat) (K : List Kp) (t : T) (w : World) (h : KRow w w.heap.size A n K) (hs : Small n K) (hT : Lay w) :
    Calls Tryd.prog 17 #[.agg #[.int .i64 keep, .slice A n c], t.val] w (IssTo w (issue keep (ls K) t)) := by
  have H := Lib.hid h
  have HSM := Lib.hid hs
  have HLY := Lib.hid hT
  obtain ⟨w2, hw2⟩ : ∃ w2, (w.alloc (.cells #[.int .i64 keep, .slice A n c] 24)).alloc (.cells t.cells 41) = w2 := ⟨_, rfl⟩
  have hb2 : Below w.heap.size w w2 := by rw [← hw2]; exact ((Below.refl _ _).alloc (Nat.le_refl _) _).alloc (by simp) _
  have hs2 : w2.heap.size = w.heap.size + 1 + 1 := by rw [← hw2]; simp
  have HG0 : Hid (w2.heap[w.heap.size]? = some (.cells #[.int .i64 keep, .slice A n c] 24 (0, 0))) := by unfold Hid; rw [← hw2]; exact heap_alloc2_old w _ _
  have HT0 : Hid (w2.heap[w.heap.size + 1]? = some (.cells t.cells 41 (0, 0))) := by unfold Hid; rw [← hw2]; exact heap_alloc2_new w _ _
  have g0 : w2.cell? ⟨w.heap.size, 0, none⟩ = some (.int .i64 keep) := cell_of_blk HG0.out rfl
  have g1 : w2.cell? ⟨w.heap.size, 1, none⟩ = some (.slice A n c) := cell_of_blk HG0.out rfl
  have HB2 := Lib.hid hb2
  have HS2 := Lib.hid hs2
  have HN0 := Lib.hid (now_any keep A n c w.heap.size K w2 (h.below hb2) hb2.size (by have := hs.1; omega))
  obtain ⟨N, hN⟩ : ∃ N, N = now (ls K) := ⟨_, rfl⟩
  obtain ⟨r, hr⟩ : ∃ r, r = issue keep (ls K) t := ⟨_, rfl⟩
  have HNO : Hid (¬ (RtP keep (ls K) ∧ (t.at N).may) → r = ([], 2)) := fun hh => by rw [hr]; exact issue_no (by rwa [← hN])
  have HYES : Hid (RtP keep (ls K) ∧ (t.at N).may → r = (frame 2 (body (lastK (ls K)) (t.at N)), 0)) := fun hh => by rw [hr, hN]; exact issue_yes (by rwa [← hN])
  have HLAST : Hid (RtP keep (ls K) → fnd (ls K) N = some (lastK (ls K)) ∧ (lastK (ls K)).length = 32) := fun hh => by rw [hN]; exact now_last hh
  rw [← hr]
  rw [← hN] at HN0
  unfold T.val
  have eC : t.cells = #[.int .i64 t.tr, .int .i64 t.ac, .int .i64 t.st, .int .i64 t.is, .int .i64 t.un, .int .i64 t.ep] := rfl
  rw [eC] at hw2 HT0 ⊢
  have HW2 := Lib.hid hw2
  rw [← hw2] at g0 g1
  clear h hs hT hb2 hs2 hw2 hr hN eC
  go_enter Tryd.func17, Tryd.ntmps17
  go_wp2_with fail
  rw [HW2.out]
  refine HN0.out.mono ?_
  rintro e3 w3 ⟨rfl, hb3⟩
  have HG3 : Hid (w3.heap[w.heap.size]? = some (.cells #[.int .i64 keep, .slice A n c] 24 (0, 0))) := (hb3.block _ (by have := HS2.out; omega)).trans HG0.out
  have HT3 : Hid (w3.heap[w.heap.size + 1]? = some (.cells #[.int .i64 t.tr, .int .i64 t.ac, .int .i64 t.st, .int .i64 t.is, .int .i64 t.un, .int .i64 t.ep] 41 (0, 0))) := (hb3.block _ (by have := HS2.out; omega)).trans HT0.out
  have HB3 := Lib.hid (HB2.out.trans (hb3.mono HB2.out.size))
  have x5 : w3.cell? ⟨w.heap.size + 1, 5, none⟩ = some (.int .i64 t.ep) := cell_of_blk HT3.out rfl
  have xf : w3.frozen? ⟨w.heap.size + 1, 5, none⟩ = false := free_of_blk HT3.out
  obtain ⟨U, hU⟩ : ∃ U, U = t.at N := ⟨_, rfl⟩
  rw [← hU] at HNO HYES
  have hT4 : (w3.setCell ⟨w.heap.size + 1, 5, none⟩ (.int .i64 N)).heap[w.heap.size + 1]? = some (.cells U.cells 41 (0, 0)) := by rw [hU]; exact set_blk HT3.out
  have hE : U.ep = N := by rw [hU]; rfl
  obtain ⟨utr, uac, ust, uis, uun, uep⟩ := U
  obtain rfl : uep = N := hE
  have HT4 : Hid ((w3.setCell ⟨w.heap.size + 1, 5, none⟩ (.int .i64 uep)).heap[w.heap.size + 1]? = some (.cells #[.int .i64 utr, .int .i64 uac, .int .i64 ust, .int .i64 uis, .int .i64 uun, .int .i64 uep] 41 (0, 0))) := hT4
  have HG4 : Hid ((w3.setCell ⟨w.heap.size + 1, 5, none⟩ (.int .i64 uep)).heap[w.heap.size]? = some (.cells #[.int .i64 keep, .slice A n c] 24 (0, 0))) := (heap_setCell_other _ _ _ _ (by simp)).trans HG3.out
  have HB4 : Hid (Below w.heap.size w (w3.setCell ⟨w.heap.size + 1, 5, none⟩ (.int .i64 uep))) := HB3.out.setCell (by simp) _
  clear hb3 hU hT4 g0 g1 HN0 HB3 HW2 HT0 HG0
  have h0 : (w3.setCell ⟨w.heap.size + 1, 5, none⟩ (.int .i64 uep)).cell? ⟨w.heap.size, 0, none⟩ = some (.int .i64 keep) := cell_of_blk HG4.out rfl
  have h1 : (w3.setCell ⟨w.heap.size + 1, 5, none⟩ (.int .i64 uep)).cell? ⟨w.heap.size, 1, none⟩ = some (.slice A n c) := cell_of_blk HG4.out rfl
  have r0 : w3.cell? ⟨w.heap.size, 0, none⟩ = some (.int .i64 keep) := cell_of_blk HG3.out rfl
  have r1 : w3.cell? ⟨w.heap.size, 1, none⟩ = some (.slice A n c) := cell_of_blk HG3.out rfl
  have HRI := Lib.hid (right_any keep A n c w.heap.size K (w3.setCell ⟨w.heap.size + 1, 5, none⟩ (.int .i64 uep)) (H.out.below HB4.out) HB4.out.size (by have := HSM.out.1; omega))
  go_wp2_with fail
  refine HRI.out.mono ?_
  rintro e5 w5 ⟨rfl, hb5⟩
  have HB5 := Lib.hid (HB4.out.trans (hb5.mono HB4.out.size))
  have HG5 : Hid (w5.heap[w.heap.size]? = some (.cells #[.int .i64 keep, .slice A n c] 24 (0, 0))) := (hb5.block _ (Array.getElem?_eq_some_iff.1 HG4.out).1).trans HG4.out
  have HT5 : Hid (w5.heap[w.heap.size + 1]? = some (.cells #[.int .i64 utr, .int .i64 uac, .int .i64 ust, .int .i64 uis, .int .i64 uun, .int .i64 uep] 41 (0, 0))) := (hb5.block _ (Array.getElem?_eq_some_iff.1 HT4.out).1).trans HT4.out
  clear hb5 h0 h1 r0 r1 x5 xf HRI HB4 HG4 HT4 HG3 HT3
  cases hrt : rt keep (ls K) with
  | false =>
    have hrr : r = ([], 2) := HNO.out (fun hh => by rw [rt_yes hh.1] at hrt; cases hrt)
    have HRE := Lib.hid hrr
    clear hrt hrr
    go_wp2
    go_ret2
    rw [HRE.out]
    exact ⟨none, 0, 0, rfl, Row.none_, fun _ => rfl, Nat.le_refl _, Nat.zero_le _, HB5.out⟩
  | true =>
    have HRT := Lib.hid (rt_true.1 hrt)
    have HMY : Hid (Calls Tryd.prog 49 #[.agg #[.int .i64 utr, .int .i64 uac, .int .i64 ust, .int .i64 uis, .int .i64 uun, .int .i64 uep]] w5 fun x w' => x = .returned (.bool (decide (⟨utr, uac, ust, uis, uun, uep⟩ : T).may)) ∧ Below w5.heap.size w5 w') := may_any (⟨utr, uac, ust, uis, uun, uep⟩ : T) w5
    clear hrt
    have u0 : w5.cell? ⟨w.heap.size + 1, 0, none⟩ = some (.int .i64 utr) := cell_of_blk HT5.out rfl
    have u1 : w5.cell? ⟨w.heap.size + 1, 1, none⟩ = some (.int .i64 uac) := cell_of_blk HT5.out rfl
    have u2 : w5.cell? ⟨w.heap.size + 1, 2, none⟩ = some (.int .i64 ust) := cell_of_blk HT5.out rfl
    have u3 : w5.cell? ⟨w.heap.size + 1, 3, none⟩ = some (.int .i64 uis) := cell_of_blk HT5.out rfl
    have u4 : w5.cell? ⟨w.heap.size + 1, 4, none⟩ = some (.int .i64 uun) := cell_of_blk HT5.out rfl
    have u5 : w5.cell? ⟨w.heap.size + 1, 5, none⟩ = some (.int .i64 uep) := cell_of_blk HT5.out rfl
    go_wp2_with fail
    refine HMY.out.mono ?_
    rintro e6 w6 ⟨rfl, hb6⟩
    have HB6 := Lib.hid (HB5.out.trans (hb6.mono HB5.out.size))
    have HG6 : Hid (w6.heap[w.heap.size]? = some (.cells #[.int .i64 keep, .slice A n c] 24 (0, 0))) := (hb6.block _ (Array.getElem?_eq_some_iff.1 HG5.out).1).trans HG5.out
    have HT6 : Hid (w6.heap[w.heap.size + 1]? = some (.cells #[.int .i64 utr, .int .i64 uac, .int .i64 ust, .int .i64 uis, .int .i64 uun, .int .i64 uep] 41 (0, 0))) := (hb6.block _ (Array.getElem?_eq_some_iff.1 HT5.out).1).trans HT5.out
    clear hb6 u0 u1 u2 u3 u4 u5 HMY HG5 HT5 HB5
    by_cases hmy : (⟨utr, uac, ust, uis, uun, uep⟩ : T).may
    · rw [decide_eq_true hmy]
      obtain ⟨k, hk⟩ : ∃ k, k = lastK (ls K) := ⟨_, rfl⟩
      have hrr : r = (frame 2 (body k (⟨utr, uac, ust, uis, uun, uep⟩ : T)), 0) := by rw [hk]; exact HYES.out ⟨HRT.out, hmy⟩
      obtain ⟨hf, hkl⟩ := HLAST.out HRT.out
      rw [← hk] at hf hkl
      have HRE := Lib.hid hrr
      have HOK := Lib.hid hmy.ok
      have HKL := Lib.hid hkl
      have HKB := Lib.hid (fnd_byt H.out hf)
      have g0 : w6.cell? ⟨w.heap.size, 0, none⟩ = some (.int .i64 keep) := cell_of_blk HG6.out rfl
      have g1 : w6.cell? ⟨w.heap.size, 1, none⟩ = some (.slice A n c) := cell_of_blk HG6.out rfl
      have y5 : w6.cell? ⟨w.heap.size + 1, 5, none⟩ = some (.int .i64 uep) := cell_of_blk HT6.out rfl
      have hfi := find_any keep uep A n c w.heap.size K w6 (H.out.below HB6.out) HB6.out.size (by have := HSM.out.1; omega) HSM.out.2
      unfold FindTo at hfi
      rw [hf] at hfi
      have HFI := Lib.hid hfi
      clear hrr hk hf hkl hmy hfi HNO HYES HLAST
      go_wp2_with fail
      refine HFI.out.mono ?_
      rintro e7 w7 ⟨A7, n7, c7, rfl, hr7, hnil7, hnc7, hb7⟩
      simp only [Option.getD_some] at hr7
      have HR7 := Lib.hid hr7
      have HC7 := Lib.hid hnc7
      have HB7 := Lib.hid (HB6.out.trans (hb7.mono HB6.out.size))
      have HT7 : Hid (w7.heap[w.heap.size + 1]? = some (.cells #[.int .i64 utr, .int .i64 uac, .int .i64 ust, .int .i64 uis, .int .i64 uun, .int .i64 uep] 41 (0, 0))) := (hb7.block _ (Array.getElem?_eq_some_iff.1 HT6.out).1).trans HT6.out
      have HBD : Hid (Below w.heap.size w w7.drew) := HB7.out.drew
      have HTD : Hid (w7.drew.heap[w.heap.size + 1]? = some (.cells #[.int .i64 utr, .int .i64 uac, .int .i64 ust, .int .i64 uis, .int .i64 uun, .int .i64 uep] 41 (0, 0))) := HT7.out
      have aS : w7.drew.cell? ⟨w.heap.size + 1, 0, none⟩ = some (.int .i64 utr) ∧ w7.drew.cell? ⟨w.heap.size + 1, 1, none⟩ = some (.int .i64 uac) ∧ w7.drew.cell? ⟨w.heap.size + 1, 2, none⟩ = some (.int .i64 ust) ∧ w7.drew.cell? ⟨w.heap.size + 1, 3, none⟩ = some (.int .i64 uis) ∧ w7.drew.cell? ⟨w.heap.size + 1, 4, none⟩ = some (.int .i64 uun) ∧ w7.drew.cell? ⟨w.heap.size + 1, 5, none⟩ = some (.int .i64 uep) := ⟨cell_of_blk HTD.out rfl, cell_of_blk HTD.out rfl, cell_of_blk HTD.out rfl, cell_of_blk HTD.out rfl, cell_of_blk HTD.out rfl, cell_of_blk HTD.out rfl⟩
      have HTG : Hid (Calls Tryd.prog 52 #[.slice A7 n7 c7, .agg #[.int .i64 utr, .int .i64 uac, .int .i64 ust, .int .i64 uis, .int .i64 uun, .int .i64 uep]] w7.drew fun e w' => ∃ v, e = .returned v ∧ w'.ownsRow w7.drew.heap.size 5 1 v 32 ((tagT k (⟨utr, uac, ust, uis, uun, uep⟩ : T)).map (Value.int .u8)) ∧ Below w7.drew.heap.size w7.drew w') := tagged_any A7 n7 c7 k (⟨utr, uac, ust, uis, uun, uep⟩ : T) HOK.out w7.drew (HR7.out.below (Below.refl _ _).drew) HC7.out (by have h1 := HR7.out.len; have h2 := HKL.out; omega) HKB.out (HLY.out.below HBD.out HLY.out.tab.1)
      have HPT : Hid (∀ (wx : World) (Ax : Option Addr) (cx : Nat), Row .u8 wx wx.heap.size Ax 32 (tagT k (⟨utr, uac, ust, uis, uun, uep⟩ : T)) → (Ax = none → cx = 0) → Calls Tryd.prog 51 #[.agg #[.int .i64 utr, .int .i64 uac, .int .i64 ust, .int .i64 uis, .int .i64 uun, .int .i64 uep], .slice Ax 32 cx] wx fun e w' => ∃ v, e = .returned (.tuple #[v, .int .i64 0]) ∧ w'.ownsRow wx.heap.size 5 1 v (frame 2 (body k (⟨utr, uac, ust, uis, uun, uep⟩ : T))).length ((frame 2 (body k (⟨utr, uac, ust, uis, uun, uep⟩ : T))).map (Value.int .u8)) ∧ Below wx.heap.size wx w') := fun wx Ax cx h1 h2 => tput_any Ax cx k (⟨utr, uac, ust, uis, uun, uep⟩ : T) HOK.out wx h1 h2
      rw [show (some k).isSome = true from rfl]
      clear hr7 hnil7 hnc7 hb7 g0 g1 y5 HFI HR7 HC7
      go_wp2_with fail
      go_region_held3 (fun wx => wx.cell? ⟨w.heap.size + 1, 0, none⟩ = some (.int .i64 utr) ∧ wx.cell? ⟨w.heap.size + 1, 1, none⟩ = some (.int .i64 uac) ∧ wx.cell? ⟨w.heap.size + 1, 2, none⟩ = some (.int .i64 ust) ∧ wx.cell? ⟨w.heap.size + 1, 3, none⟩ = some (.int .i64 uis) ∧ wx.cell? ⟨w.heap.size + 1, 4, none⟩ = some (.int .i64 uun) ∧ wx.cell? ⟨w.heap.size + 1, 5, none⟩ = some (.int .i64 uep)) (first | (with_reducible exact aS) | (with_reducible exact a8) | (with_reducible exact a9)) (first
        | (go_at_call 52; (with_reducible refine HTG.out.mono ?_); go_loud (rintro e8 w8 ⟨v8, rfl, hown8, hb8⟩; obtain ⟨A8, c8, rfl, -, hnil8⟩ := own_slice hown8; have HR8 : Hid (Row .u8 w8 w8.heap.size A8 32 (tagT k (⟨utr, uac, ust, uis, uun, uep⟩ : T))) := Row.of_own hown8; have HN8 := Lib.hid hnil8; have HB8 := Lib.hid (HBD.out.trans (hb8.mono HBD.out.size)); have HT8 : Hid (w8.heap[w.heap.size + 1]? = some (.cells #[.int .i64 utr, .int .i64 uac, .int .i64 ust, .int .i64 uis, .int .i64 uun, .int .i64 uep] 41 (0, 0))) := (hb8.block _ (Array.getElem?_eq_some_iff.1 HTD.out).1).trans HTD.out; have a8 : w8.cell? ⟨w.heap.size + 1, 0, none⟩ = some (.int .i64 utr) ∧ w8.cell? ⟨w.heap.size + 1, 1, none⟩ = some (.int .i64 uac) ∧ w8.cell? ⟨w.heap.size + 1, 2, none⟩ = some (.int .i64 ust) ∧ w8.cell? ⟨w.heap.size + 1, 3, none⟩ = some (.int .i64 uis) ∧ w8.cell? ⟨w.heap.size + 1, 4, none⟩ = some (.int .i64 uun) ∧ w8.cell? ⟨w.heap.size + 1, 5, none⟩ = some (.int .i64 uep) := ⟨cell_of_blk HT8.out rfl, cell_of_blk HT8.out rfl, cell_of_blk HT8.out rfl, cell_of_blk HT8.out rfl, cell_of_blk HT8.out rfl, cell_of_blk HT8.out rfl⟩; clear hown8 hnil8 hb8))
        | (go_at_call 51; (with_reducible refine (HPT.out w8 A8 c8 HR8.out HN8.out).mono ?_); go_loud (rintro e9 w9 ⟨v9, rfl, hown9, hb9⟩; have HO9 := Lib.hid (own_low hown9 HB8.out.size); have HB9 := Lib.hid (HB8.out.trans (hb9.mono HB8.out.size)); have HT9 : Hid (w9.heap[w.heap.size + 1]? = some (.cells #[.int .i64 utr, .int .i64 uac, .int .i64 ust, .int .i64 uis, .int .i64 uun, .int .i64 uep] 41 (0, 0))) := (hb9.block _ (Array.getElem?_eq_some_iff.1 HT8.out).1).trans HT8.out; have a9 : w9.cell? ⟨w.heap.size + 1, 0, none⟩ = some (.int .i64 utr) ∧ w9.cell? ⟨w.heap.size + 1, 1, none⟩ = some (.int .i64 uac) ∧ w9.cell? ⟨w.heap.size + 1, 2, none⟩ = some (.int .i64 ust) ∧ w9.cell? ⟨w.heap.size + 1, 3, none⟩ = some (.int .i64 uis) ∧ w9.cell? ⟨w.heap.size + 1, 4, none⟩ = some (.int .i64 uun) ∧ w9.cell? ⟨w.heap.size + 1, 5, none⟩ = some (.int .i64 uep) := ⟨cell_of_blk HT9.out rfl, cell_of_blk HT9.out rfl, cell_of_blk HT9.out rfl, cell_of_blk HT9.out rfl, cell_of_blk HT9.out rfl, cell_of_blk HT9.out rfl⟩; clear hown9 hb9)))
      go_wp2
      go_ret2
      rw [HRE.out]
      exact issTo_own (r := (frame 2 (body k (⟨utr, uac, ust, uis, uun, uep⟩ : T)), 0)) HO9.out HB9.out
    · rw [decide_eq_false hmy]
      have hrr : r = ([], 2) := HNO.out (fun hh => hmy hh.2)
      have HRE := Lib.hid hrr
      clear hrr hmy
      go_wp2
      go_ret2
      rw [HRE.out]
      exact ⟨none, 0, 0, rfl, Row.none_, fun _ => rfl, Nat.le_refl _, Nat.zero_le _, HB6.out⟩
end Go.Proofs.YtppbpmmfcoblmaaDoor.Tok
