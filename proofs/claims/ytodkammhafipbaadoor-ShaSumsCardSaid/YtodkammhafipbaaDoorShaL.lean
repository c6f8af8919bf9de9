/- Layer 7 (sha): the example of the laws. -/
import Derived.Test.YtodkammhafipbaaDoorShaC
import Derived.Test.YtodkammhafipbaaDoorShaE
namespace Go.Proofs.YtodkammhafipbaaDoor.Sha
open Go.RowKit

theorem own_cell {w : World} {base n : Nat} {v : Value} {xs : List Int} {e : TypeId} (h : w.ownsRow base e 1 v n (xs.map (Value.int .u8))) (hn : 0 < n) : ∃ g c, v = .slice (some ⟨g, 0, none⟩) n c ∧ ∀ j, j < n → w.cell? ⟨g, j, none⟩ = some (.int .u8 (xs.getD j 0)) := by
  obtain ⟨A, c, rfl, -, -⟩ := own_slice h
  obtain ⟨g, rfl, -⟩ := own_at h hn
  have hr : Row .u8 w w.heap.size (some ⟨g, 0, none⟩) n xs := Row.of_own h
  refine ⟨g, c, rfl, fun j hj => ?_⟩
  obtain ⟨b, o, e, -, hc⟩ := hr.cell_at hj
  injection e with e
  injection e with e1 e2
  subst e1 e2
  rwa [Nat.zero_add] at hc

set_option maxHeartbeats 800000 in
set_option maxRecDepth 100000 in
theorem awake_any (w : World) (hT : Lay w) : Calls Tryd.prog 5 #[] w fun e w' => e = .returned (.bool true) ∧ Below w.heap.size w w' := by
  have HT := Lib.hid (hT.below ((Below.refl w.heap.size w).alloc (Nat.le_refl _) (.cells #[.int .u8 97, .int .u8 98, .int .u8 99] 5)) hT.tab.1)
  have HR : Hid (Row .u8 (w.alloc (.cells #[.int .u8 97, .int .u8 98, .int .u8 99] 5)) (w.heap.size + 1) (some ⟨w.heap.size, 0, none⟩) 3 [97, 98, 99]) := by
    refine ⟨rfl, fun _ => ⟨w.heap.size, 0, rfl, by omega, fun j hj => ?_⟩⟩
    rw [Nat.zero_add]
    refine cell_of_blk (heap_alloc_new w _) ?_
    match j, hj with
    | 0, _ => rfl
    | 1, _ => rfl
    | 2, _ => rfl
  clear hT
  go_enter Tryd.func5, Tryd.ntmps5
  go_wp2_with fail
  refine (sum_any (some ⟨w.heap.size, 0, none⟩) 3 3 (w.heap.size + 1) [97, 98, 99] _ HR.out (by simp) (by omega) (by simp) (by omega) HT.out).mono ?_
  rintro e2 w2 ⟨v2, rfl, hown2, hb2⟩
  have e : outs (blocks ks hs (pad [97, 98, 99]) ((pad [97, 98, 99]).length / 64)) 8 = _ := abc
  rw [e] at hown2
  clear e
  have HB2 := Lib.hid (((Below.refl w.heap.size w).alloc (Nat.le_refl _) (.cells #[.int .u8 97, .int .u8 98, .int .u8 99] 5)).trans (hb2.mono (by simp)))
  obtain ⟨g, c, rfl, hc⟩ := own_cell hown2 (by omega)
  have k0 : w2.cell? ⟨g, 0, none⟩ = some (.int .u8 186) := hc 0 (by omega)
  have k1 : w2.cell? ⟨g, 1, none⟩ = some (.int .u8 120) := hc 1 (by omega)
  have k2 : w2.cell? ⟨g, 2, none⟩ = some (.int .u8 22) := hc 2 (by omega)
  have k3 : w2.cell? ⟨g, 3, none⟩ = some (.int .u8 191) := hc 3 (by omega)
  have k31 : w2.cell? ⟨g, 31, none⟩ = some (.int .u8 173) := hc 31 (by omega)
  clear hown2 hb2 hc
  go_wp2
  go_ret
  exact ⟨rfl, HB2.out⟩
end Go.Proofs.YtodkammhafipbaaDoor.Sha
