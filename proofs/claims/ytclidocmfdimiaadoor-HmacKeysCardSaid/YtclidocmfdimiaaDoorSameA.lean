/- The reference's Same of any two slices of bytes: a contract over the program. -/
import Derived.Test.YtclidocmfdimiaaDoorSame
namespace Go.Proofs.YtclidocmfdimiaaDoor
open Go.RowKit

set_option maxHeartbeats 800000 in
set_option maxRecDepth 100000 in
/-- Any two slices. -/
theorem same_any (A A' : Option Addr) (n c n' c' B B' : Nat) (xs ys : List Int) (w : World) (hn : n ≤ 4398046511104) (hn' : n' ≤ 4398046511104) (h1 : Row .u8 w B A n xs) (h2 : Row .u8 w B' A' n' ys) :
    Calls Tryd.prog 6 #[.slice A n c, .slice A' n' c'] w fun e w' => e = .returned (.bool (decide (xs = ys))) ∧ ∃ q, w' = w.drewN q := by
  have H1 := Lib.hid h1
  have H2 := Lib.hid h2
  have l1 := h1.len
  have l2 := h2.len
  clear h1 h2
  by_cases hne : n = n'
  · subst hne
    go_enter Tryd.func6, Tryd.ntmps6
    go_wp2
    go_loopw [5] (fun i wr => ∃ k q : Nat, k ≤ n ∧ i = .int .i64 (k : Int) ∧ Hid (xs.take k = ys.take k) ∧ Hid (wr = w.drewN q)) (fun i _ => n - (intOf i).toNat)
    case atStart => exact ⟨0, 0, Nat.zero_le _, rfl, rfl, rfl⟩
    case round =>
      obtain ⟨k, q, hk, rfl, HT, hw⟩ := hrel
      obtain rfl := hw.out
      clear hw
      by_cases hlt : k < n
      · obtain ⟨b, o, rfl, _, hc1⟩ := H1.out.cell_at hlt
        obtain ⟨b', o', rfl, _, hc2⟩ := H2.out.cell_at hlt
        have hx : xs.getD k 0 = xs[k]'(by omega) := by simp [List.getD, show k < xs.length by omega]
        have hy : ys.getD k 0 = ys[k]'(by omega) := by simp [List.getD, show k < ys.length by omega]
        by_cases heq : xs.getD k 0 = ys.getD k 0
        · have HT2 : Hid (xs.take (k + 1) = ys.take (k + 1)) := by
            unfold Hid
            rw [List.take_succ_eq_append_getElem (by omega), List.take_succ_eq_append_getElem (by omega), HT.out, ← hx, ← hy, heq]
          rw [← heq] at hc2
          clear hx hy heq
          go_wp2
          go_quiet (fail)
          go_wp2
          go_roundw
          case rel => exact ⟨k + 1, _, by omega, by go_num, HT2, by unfold Hid; rfl⟩
          case measure => simp [intOf]; omega
        · have HNE : Hid (decide (xs = ys) = false) := by
            unfold Hid
            refine decide_eq_false fun h => heq ?_
            rw [h]
          have hnb : (xs.getD k 0 == ys.getD k 0) = false := beq_eq_false_iff_ne.2 heq
          have hnb2 : (xs.getD k 0 != ys.getD k 0) = true := by rw [bne, hnb]; rfl
          generalize xs.getD k 0 = x at *
          generalize ys.getD k 0 = y at *
          clear hx hy heq
          go_wp2
          go_quiet (fail)
          go_wp2
          go_ret
          exact ⟨by rw [HNE.out]; rfl, q + nq, World.drewN_drewN _ _ _⟩
      · have HY : Hid (decide (xs = ys) = true) := by
          unfold Hid
          have h := HT.out
          rw [List.take_of_length_le (by omega), List.take_of_length_le (by omega)] at h
          exact decide_eq_true h
        go_wp2
        go_ret
        exact ⟨by rw [HY.out]; rfl, _, rfl⟩
  · have HNE : Hid (decide (xs = ys) = false) := by
      unfold Hid
      refine decide_eq_false fun h => hne ?_
      rw [← l1, ← l2, h]
    have hb : ((n : Int) == (n' : Int)) = false := beq_eq_false_iff_ne.2 (by omega)
    have hb2 : ((n : Int) != (n' : Int)) = true := by rw [bne, hb]; rfl
    clear hne
    go_enter Tryd.func6, Tryd.ntmps6
    go_wp2
    go_ret
    exact ⟨by rw [HNE.out]; rfl, 0, rfl⟩
end Go.Proofs.YtclidocmfdimiaaDoor
