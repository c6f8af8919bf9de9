/- Layer 12 (revoke): the example of the laws; RevokeTells as a walk, out of what the program's functions must do. -/
import Derived.Test.YtfmmpmpafgbidaaRvA
import Derived.Test.YtfmmpmpafgbidaaFam
import Derived.Test.YtfmmpmpafgbidaaMix
namespace Go.Proofs.Ytfmmpmpafgbidaa.Rv
open Go.RowKit Rec

theorem addT_awake : addT [] (3, 5) = ([(3, 5)], 0) := by
  unfold addT
  rw [if_pos ⟨Rt.nil_, ⟨by omega, by omega⟩, by simp only; omega, by simp only; omega⟩, if_pos (by decide)]
  rfl
theorem rt_awake : Rt [((3 : Int), (5 : Int))] := ⟨by simp [okp], by simp [Asc], by simp⟩

set_option maxHeartbeats 1600000 in
set_option maxRecDepth 100000 in
theorem awake_any (hA : AddOk) (hH : HasOk) (w : World) : Calls Try.prog 6 #[] w fun e w' => e = .returned (.bool true) ∧ Below w.heap.size w w' := by
  have P1 := Lib.hid (hA none 0 0 [] (3, 5) w RRow.nil_ (fun _ => rfl) (Nat.le_refl _) (Nat.zero_le _) (by omega))
  have HE := Lib.hid addT_awake
  go_enter Try.func6, Try.ntmps6
  go_wp2_with fail
  refine P1.out.mono ?_
  rw [HE.out]
  rintro e1 w1 ⟨v1, rfl, A1, n1, c1, rfl, hr1, hnil1, hnc1, hcm1, hb1⟩
  have HR1 := Lib.hid hr1
  have HX := Lib.hid (And.intro hnil1 (And.intro hnc1 hcm1))
  have HB1 := Lib.hid hb1
  have hl1 : n1 = 1 := hr1.len.symm
  subst hl1
  have h5 : has [((3 : Int), (5 : Int))] 3 5 = true := by decide
  have h6 : has [((3 : Int), (5 : Int))] 3 6 = false := by decide
  have H56 := Lib.hid (And.intro h5 h6)
  clear hr1 hnil1 hnc1 hcm1 hb1 P1 h5 h6
  go_wp2_with fail
  refine (hH A1 1 c1 _ 3 5 w1 HR1.out HX.out.1 HX.out.2.1 HX.out.2.2 rt_awake).mono ?_
  rw [H56.out.1]
  rintro e2 w2 ⟨rfl, hb2⟩
  have HB2 := Lib.hid (HB1.out.trans (hb2.mono HB1.out.size))
  have HR2 := Lib.hid ((HR1.out.below hb2).more hb2.size)
  clear hb2
  go_wp2_with fail
  refine (hH A1 1 c1 _ 3 6 w2 HR2.out HX.out.1 HX.out.2.1 HX.out.2.2 rt_awake).mono ?_
  rw [H56.out.2]
  rintro e3 w3 ⟨rfl, hb3⟩
  have HB3 := Lib.hid (HB2.out.trans (hb3.mono HB2.out.size))
  clear hb3
  go_wp2
  go_ret
  exact ⟨rfl, HB3.out⟩

/-- Behind the law's boxes: x in block G, the numbers in block G + 1. -/
structure Bx (w0 : World) (x : P) (n0 n1 : Int) (w' : World) : Prop where
  xb : w'.heap[w0.heap.size]? = some (.cells #[.int .i64 x.1, .int .i64 x.2] 24 (0, 0))
  nb : w'.heap[w0.heap.size + 1]? = some (.cells #[.int .i64 n0, .int .i64 n1] 25 (0, 0))
  bel : Below w0.heap.size w0 w'
theorem Bx.below {w0 w1 w2 : World} {x : P} {n0 n1 : Int} (h : Bx w0 x n0 n1 w1) (hb : Below w1.heap.size w1 w2) : Bx w0 x n0 n1 w2 :=
  ⟨(hb.block _ (Array.getElem?_eq_some_iff.1 h.xb).1).trans h.xb, (hb.block _ (Array.getElem?_eq_some_iff.1 h.nb).1).trans h.nb, h.bel.trans (hb.mono h.bel.size)⟩
end Go.Proofs.Ytfmmpmpafgbidaa.Rv
