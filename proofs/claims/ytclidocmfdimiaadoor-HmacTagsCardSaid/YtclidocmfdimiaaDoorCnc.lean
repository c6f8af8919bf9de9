/- Go's library on slices of slices of bytes, as contracts over the program: slices.Grow of nil, slices.Concat. -/
import Derived.Test.YtclidocmfdimiaaDoorProg
import Derived.Test.YtclidocmfdimiaaDoorVct
import Derived.WalkKit
import Derived.KernelRfl
import Derived.WalkMore
import Derived.Lib.Walk
import Derived.Lib.SliceRun
import Derived.Lib.AppendZerosOnto
import Derived.Test.YtclidocmfdimiaaDoorShaP
namespace Go.Proofs.YtclidocmfdimiaaDoor.Vct
open Go.RowKit

theorem info_sl : (Tryd.prog.info? 22).map (fun i => (i.zero, i.size, i.bytes)) = some (some (.slice none 0 0), 1, 24) := by kernel_rfl

set_option maxHeartbeats 800000 in
set_option maxRecDepth 100000 in
/-- slices.Grow of nil: no elements, room for n. -/
theorem vgrow_nil (n : Nat) (hn : n ≤ 1099511627776) (w : World) :
    Calls Tryd.prog 20 #[.slice none 0 0, .int .i64 (n : Int)] w fun e w' =>
      ∃ v, e = .returned v ∧ w'.ownsRow w.heap.size 22 1 v 0 ([] : List Value) ∧ Below w.heap.size w w' := by
  obtain ⟨i0, hi, hz0, hz1, hz2⟩ := Sha.parts_of info_sl
  by_cases h0 : n = 0
  · subst h0
    go_enter Tryd.func20, Tryd.ntmps20
    go_wp2
    go_ret
    exact ⟨_, rfl, World.ownsRow_nil _ _ _ _, Below.refl _ _⟩
  · have hold : (Builtin.firstCells i0.size 0 (.slice none 0 0)).run Tryd.prog w.drew = .ok ([] : List Value).toArray w.drew := run_firstCells_none w.drew i0.size 0 0 0
    have hrz : ∀ ty, (Builtin.append_ #[23, 3] ty #[.slice none 0 0, .int .i64 (n : Int)]).run Tryd.prog w = _ := fun ty =>
      Lib.run_append_grow_zeros w 23 3 ty 22 i0 (.slice none 0 0) .i64 .i64 Tryd.underlying23 Tryd.underlying3 hi hz0 none 0 0 [] hold n (by omega) (by omega) (by omega) (by omega) (by rw [hz2]; omega) (growslice_fits (by omega) (by rw [hz2]; omega))
    have hge := grownCap_ge w (0 + n) 0 22
    have hle := grownCap_le_maxLen w (0 + n) 0 22 (by unfold maxLen; omega)
    generalize grownCap w (0 + n) 0 22 = G at *
    have hle' : G ≤ 9223372036854775807 := by unfold maxLen at hle; omega
    go_enter Tryd.func20, Tryd.ntmps20
    go_wp2_with (at_builtin; refine Lib.wpList_append_run _ rfl _ _ _ _ rfl _ _ rfl rfl _ _ (hrz _) ?_)
    go_ret
    refine ⟨_, rfl, ⟨rfl, .inr ⟨w.heap.size, G, _, rfl, Nat.le_refl _, Array.getElem?_push_size, Nat.zero_le _, hle, ?_, by simp⟩⟩, (Below.refl w.heap.size w).drew.alloc (Nat.le_refl _) _⟩
    simp [size_zeroCells]
    have : (Value.slice none 0 0).cells.size = 1 := rfl
    omega

set_option maxHeartbeats 1600000 in
set_option maxRecDepth 100000 in
/-- slices.Concat: all parts, one behind the other, in a row of its own. -/
theorem vconcat_any (L : List VPart) (g c B : Nat) (w : World) (hc : ∀ j (h : j < L.length), w.cell? ⟨g, j, none⟩ = some (L[j]).v) (hL : ∀ p ∈ L, p.Right w B) (hB : B ≤ w.heap.size) (hg : g < w.heap.size) (ht : vtotal L ≤ 1099511627776) (hl : L.length ≤ 1000000) :
    Calls Tryd.prog 14 #[.slice (some ⟨g, 0, none⟩) L.length c] w fun e w' =>
      ∃ v, e = .returned v ∧ w'.ownsRow w.heap.size 22 1 v (vtotal L) (vwhole L) ∧ Below w.heap.size w w' := by
  obtain ⟨i0, hi, hz0, hz1, hz2⟩ := Sha.parts_of info_sl
  have HC := Lib.hid hc
  have HL := Lib.hid hL
  clear hc hL
  go_enter Tryd.func14, Tryd.ntmps14
  go_wp2
  go_loop [11, 3] (fun a s => ∃ i : Nat, i ≤ L.length ∧ a = .int .i64 (i : Int) ∧ s = .int .i64 (vtotal (L.take i) : Int)) (fun a _ => L.length - (intOf a).toNat)
  case atStart => exact ⟨0, Nat.zero_le _, rfl, by simp [vtotal]⟩
  case round =>
    obtain ⟨i, hle, rfl, rfl⟩ := hrel
    by_cases hlt : i < L.length
    · have h1 := HC.out i hlt
      have h2 := vtotal_next hlt
      have h3 := vtotal_le L (i + 1)
      unfold VPart.v at h1
      generalize L[i] = p at *
      obtain ⟨A, n, c1, xs⟩ := p
      generalize vtotal (L.take i) = t at *
      have h4 : vtotal (L.take (i + 1)) ≤ 1099511627776 := by omega
      obtain ⟨t1, H1⟩ : ∃ t1, Hid (t1 = vtotal (L.take (i + 1))) := ⟨_, Lib.hid rfl⟩
      rw [← H1.out] at h2 h4
      have h5 : t1 = t + n := h2
      have hw : IntKind.i64.wrap ((t : Int) + (n : Int)) = (t1 : Int) := by rw [IntWalk.i64_in _ ⟨by omega, by omega⟩]; omega
      clear h2 h3 h4 h5
      go_wp2
      go_round
      case rel => exact ⟨i + 1, by omega, by go_num, by rw [H1.out]⟩
      case measure => simp [intOf]; omega
    · obtain rfl : i = L.length := by omega
      rw [List.take_length]
      go_wp2_with fail
      refine (vgrow_nil (vtotal L) ht w).mono ?_
      rintro e1 w1 ⟨v1, rfl, hown1, hb1⟩
      have HB1 := Lib.hid hb1
      have HO1 := Lib.hid hown1
      clear hb1 hown1
      go_wp2_with fail
      go_loopw [27, 6] (fun a v wr => ∃ i : Nat, i ≤ L.length ∧ a = .int .i64 (i : Int) ∧ Hid (wr.ownsRow w.heap.size 22 1 v (vtotal (L.take i)) (vwhole (L.take i))) ∧ Hid (Below w.heap.size w wr)) (fun a _ _ => L.length - (intOf a).toNat)
      case atStart => exact ⟨0, Nat.zero_le _, rfl, by simpa [vtotal, vwhole] using HO1, HB1⟩
      case round =>
        obtain ⟨i, hle, rfl, HO, HB⟩ := hrel
        by_cases hlt : i < L.length
        · have h1 := (HB.out.cell (p := ⟨g, i, none⟩) hg).trans (HC.out i hlt)
          have h2 := Lib.hid (vtotal_next hlt)
          have h2' := Lib.hid (vwhole_next hlt)
          have h3 := vtotal_le L (i + 1)
          obtain ⟨hr, hnil⟩ := HL.out _ (List.getElem_mem hlt)
          have hsum := vtotal_next hlt
          unfold VPart.v at h1
          generalize L[i] = p at *
          obtain ⟨A, n, c1, xs⟩ := p
          have hrow : Hid (VRow wr B A n xs) := hr.below (HB.out.mono hB)
          have hsz := HB.out.size
          have hsm : vtotal (L.take i) + n ≤ 1099511627776 := by simp only at hsum; omega
          have HN := Lib.hid hnil
          clear hr hnil hsum h3
          go_wp2_with (at_builtin; refine cat_vals rfl (.tmp 31) (.tmp 32) 23 rfl w.heap.size 22 i0 (.slice none 0 0) 24 Tryd.underlying23 hi hz0 rfl hz1 hz2 _ (vtotal (L.take i)) (vwhole (L.take i)) rfl HO.out B A n c1 xs rfl HN.out hrow.out hsm (by omega) hsz ?_; intro v2 w2 hown2 hb2; have HO2 := Lib.hid hown2; have HB2 := Lib.hid (HB.out.trans hb2); clear hown2 hb2)
          go_roundw
          case rel => exact ⟨i + 1, by omega, by go_num, by unfold Hid; rw [h2.out, h2'.out]; exact HO2.out, HB2⟩
          case measure => simp [intOf]; omega
        · obtain rfl : i = L.length := by omega
          rw [List.take_length] at HO
          go_wp2
          go_ret
          exact ⟨_, rfl, HO.out, HB.out⟩
end Go.Proofs.YtclidocmfdimiaaDoor.Vct
