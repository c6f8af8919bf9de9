/- Layer 7 (sha): the walk of the law on sums. -/
import Derived.Test.YtodkammhafipbaaDoorShaL
import Derived.Test.YtodkammhafipbaaDoorShaQ
import Derived.Test.YtodkammhafipbaaDoorShaS
import Derived.Test.YtodkammhafipbaaDoorSameA
namespace Go.Proofs.YtodkammhafipbaaDoor.Sha
open Go.RowKit

set_option maxHeartbeats 1600000 in
set_option maxRecDepth 100000 in
theorem sums_walk (A A' : Option Addr) (n c n' c' : Nat) (xs ys : List Int) (w : World) (hr : Row .u8 w w.heap.size A n xs) (hr' : Row .u8 w w.heap.size A' n' ys) (hnil : A = none → c = 0) (hc : n ≤ c) (hx : ∀ z ∈ xs, 0 ≤ z ∧ z ≤ 255) (hy : ∀ z ∈ ys, 0 ≤ z ∧ z ≤ 255) (hT : Lay w) :
    Calls Tryd.prog 3 #[.slice A n c, .slice A' n' c'] w fun e w' => e = .returned (.bool true) ∧ Below w.heap.size w w' := by
  have HR := Lib.hid hr
  have HR' := Lib.hid hr'
  have HNIL := Lib.hid hnil
  have HNC := Lib.hid hc
  have HX := Lib.hid hx
  have HY := Lib.hid hy
  have HT := Lib.hid hT
  clear hr hr' hnil hc hx hy hT
  go_enter Tryd.func3, Tryd.ntmps3
  go_wp2_with fail
  refine (awake_any _ HT.out).mono ?_
  rintro e1 w1 ⟨rfl, hb1⟩
  have HB1 := Lib.hid hb1
  clear hb1
  by_cases hbig : n ≤ 2000
  · by_cases hbig' : n' ≤ 2000
    · have hd : decide ((2000 : Int) < (n : Int)) = false := by simp; omega
      have hd' : decide ((2000 : Int) < (n' : Int)) = false := by simp; omega
      go_wp2_with fail
      refine (sum_any A n c w.heap.size xs _ (HR.out.below HB1.out) HB1.out.size HNC.out HX.out (by omega) (HT.out.below HB1.out HT.out.tab.1)).mono ?_
      rintro e2 w2 ⟨v2, rfl, hown2, hb2⟩
      obtain ⟨A2, c2, rfl, -, -⟩ := own_slice hown2
      have HO2 := Lib.hid hown2
      have HB2 := Lib.hid (HB1.out.trans (hb2.mono HB1.out.size))
      clear hown2 hb2
      go_wp2_with fail
      refine (refsum_any A n c xs _ ((HR.out.below HB2.out).more HB2.out.size) HNIL.out (by omega) HX.out).mono ?_
      rintro e3 w3 ⟨v3, rfl, hown3, hb3⟩
      obtain ⟨A3, c3, rfl, -, -⟩ := own_slice hown3
      have HR2 := Lib.hid ((Row.of_own HO2.out).below hb3)
      have HR3 := Lib.hid (Row.of_own hown3)
      have HB3 := Lib.hid (HB2.out.trans (hb3.mono HB2.out.size))
      clear hown3 hb3 HO2
      go_wp2_with fail
      refine (same_yes A2 A3 32 c2 c3 _ _ (outs (blocks ks hs (pad xs) ((pad xs).length / 64)) 8) _ (by omega) HR2.out HR3.out).mono ?_
      rintro e4 w4 ⟨rfl, q, rfl⟩
      have HB4 : Hid (Below w.heap.size w (w3.drewN q)) := ⟨HB3.out.os, HB3.out.tape, HB3.out.output, HB3.out.size, HB3.out.block⟩
      generalize w3.drewN q = w4 at HB4 ⊢
      clear HR2 HR3 HB3
      go_wp2_with fail
      refine (psame_any A A' n c n' c' _ _ xs ys _ (HR.out.below HB4.out) (HR'.out.below HB4.out) (by omega) (by omega) HX.out HY.out).mono ?_
      rintro e5 w5 ⟨rfl, q5, rfl⟩
      have HB5 : Hid (Below w.heap.size w (w4.drewN q5)) := ⟨HB4.out.os, HB4.out.tape, HB4.out.output, HB4.out.size, HB4.out.block⟩
      generalize w4.drewN q5 = w5 at HB5 ⊢
      go_wp2_with fail
      refine (same_any A A' n c n' c' _ _ xs ys _ (by omega) (by omega) (HR.out.below HB5.out) (HR'.out.below HB5.out)).mono ?_
      rintro e6 w6 ⟨rfl, q6, rfl⟩
      have HB6 : Hid (Below w.heap.size w (w5.drewN q6)) := ⟨HB5.out.os, HB5.out.tape, HB5.out.output, HB5.out.size, HB5.out.block⟩
      generalize w5.drewN q6 = w6 at HB6 ⊢
      generalize decide (xs = ys) = d
      have hdd : (d == d) = true := by cases d <;> rfl
      go_wp2_with fail
      refine (psame_any A A n c n c _ _ xs xs _ (HR.out.below HB6.out) (HR.out.below HB6.out) (by omega) (by omega) HX.out HX.out).mono ?_
      rintro e7 w7 ⟨rfl, q7, rfl⟩
      have hxx : decide (xs = xs) = true := decide_eq_true rfl
      rw [hxx]
      go_wp2
      go_ret
      exact ⟨rfl, ⟨HB6.out.os, HB6.out.tape, HB6.out.output, HB6.out.size, HB6.out.block⟩⟩
    · have hd : decide ((2000 : Int) < (n : Int)) = false := by simp; omega
      have hd' : decide ((2000 : Int) < (n' : Int)) = true := by simp; omega
      go_wp2
      go_ret
      exact ⟨rfl, HB1.out⟩
  · have hd : decide ((2000 : Int) < (n : Int)) = true := by simp; omega
    go_wp2
    go_ret
    exact ⟨rfl, HB1.out⟩
end Go.Proofs.YtodkammhafipbaaDoor.Sha
