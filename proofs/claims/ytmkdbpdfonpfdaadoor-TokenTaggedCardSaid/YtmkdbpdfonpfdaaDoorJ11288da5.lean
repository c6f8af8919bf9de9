/- Lemmas that the proof stands on, in build order: RgG RgR RgF RgZ KeyF RgS RgT TokE. -/
import Derived.Lib.MinMax
import Derived.StillTailTactics
import Derived.Deep.RegionHeld3
import Derived.RegionTactic
import Derived.Lib.AppendZerosOnto
import Derived.Test.YtmkdbpdfonpfdaaDoorJ10620102
import Derived.Test.YtmkdbpdfonpfdaaDoorJ127b64a
import Derived.Test.YtmkdbpdfonpfdaaDoorJ30798c8
import Derived.Test.YtmkdbpdfonpfdaaDoorJ48595ad
import Derived.Test.YtmkdbpdfonpfdaaDoorJ6ebf1f3
import Derived.Test.YtmkdbpdfonpfdaaDoorJ7dd9cd8
/- Layer 9 (ring): the program's made and New, as contracts. -/
namespace Go.Proofs.YtmkdbpdfonpfdaaDoor.Rg
open Go.RowKit Sha Hmc Slc

set_option maxHeartbeats 800000 in
set_option maxRecDepth 100000 in
theorem made_any (e : Int) (A : Option Addr) (n c : Nat) (d : List Int) (w : World) (h : Row .u8 w w.heap.size A n d) (hc : n ≤ c) (hn : n ≤ 100000) (hd : ∀ x ∈ d, 0 ≤ x ∧ x ≤ 255) (he : 0 ≤ e ∧ e ≤ 16777216) (hT : Lay w) :
    Calls Tryd.prog 48 #[.int .i64 e, .slice A n c] w fun x w' => ∃ A5 c5, x = .returned (.agg #[.int .i64 e, .slice A5 32 c5]) ∧ w'.ownsRow w.heap.size 5 1 (.slice A5 32 c5) 32 ((keyOf d e).map (Value.int .u8)) ∧ Below w.heap.size w w' := by
  obtain ⟨w1, hw1⟩ : ∃ w1, w.alloc (.cells #[.int .i64 0, .slice none 0 0] 58) = w1 := ⟨_, rfl⟩
  obtain ⟨w3, hw3⟩ : ∃ w3, (w1.alloc (.cells #[.int .u8 (e / 16777216), .int .u8 (e / 65536 % 256), .int .u8 (e / 256 % 256), .int .u8 (e % 256)] 5)).alloc (.cells #[.slice (some ⟨w.heap.size + 1, 0, none⟩) 4 4] 29) = w3 := ⟨_, rfl⟩
  have hs1 : w1.heap.size = w.heap.size + 1 := by rw [← hw1]; simp
  have hs3 : w3.heap.size = w.heap.size + 3 := by rw [← hw3]; simp [hs1]
  have hb1 : Below w.heap.size w w1 := by rw [← hw1]; exact (Below.refl _ _).alloc (Nat.le_refl _) _
  have hb3 : Below w.heap.size w w3 := by rw [← hw3]; exact (hb1.alloc (by omega) _).alloc (by simp; omega) _
  have hb13 : Below w1.heap.size w1 w3 := by rw [← hw3]; exact ((Below.refl _ _).alloc (Nat.le_refl _) _).alloc (by simp) _
  have hk : w3.heap[w.heap.size]? = some (.cells #[.int .i64 0, .slice none 0 0] 58 (0, 0)) := by
    rw [hb13.block w.heap.size (by omega), ← hw1]
    exact heap_alloc_new w _
  have h4 : w3.heap[w.heap.size + 1]? = some (.cells #[.int .u8 (e / 16777216), .int .u8 (e / 65536 % 256), .int .u8 (e / 256 % 256), .int .u8 (e % 256)] 5 (0, 0)) := by rw [← hw3, ← hs1]; exact heap_alloc2_old w1 _ _
  have h1 : w3.heap[w.heap.size + 1 + 1]? = some (.cells #[.slice (some ⟨w.heap.size + 1, 0, none⟩) 4 4] 29 (0, 0)) := by rw [← hw3, ← hs1]; exact heap_alloc2_new w1 _ _
  have hr4 : Row .u8 w3 w3.heap.size (some ⟨w.heap.size + 1, 0, none⟩) 4 (be4 e) := by
    refine ⟨rfl, fun _ => ⟨w.heap.size + 1, 0, rfl, by omega, fun j hj => ?_⟩⟩
    rw [Nat.zero_add]
    refine cell_of_blk h4 ?_
    match j, hj with
    | 0, _ => rfl
    | 1, _ => rfl
    | 2, _ => rfl
    | 3, _ => rfl
  have hp : Prs w3 w3.heap.size (some ⟨w.heap.size + 1 + 1, 0, none⟩) 1 [⟨some ⟨w.heap.size + 1, 0, none⟩, 4, 4, be4 e⟩] := Prs.of_blk (L := [⟨some ⟨w.heap.size + 1, 0, none⟩, 4, 4, be4 e⟩]) h1 (by omega) rfl (fun p hp => by
    obtain rfl := List.mem_singleton.1 hp
    exact ⟨hr4, fun h => by cases h⟩) (fun p hp => by
    obtain rfl := List.mem_singleton.1 hp
    exact ⟨Nat.le_refl _, be4_byt he⟩)
  have HB3 := Lib.hid hb3
  have HK := Lib.hid hk
  have HW1 := Lib.hid hw1
  have HW3 := Lib.hid hw3
  have HD := Lib.hid (derive_any A (some ⟨w.heap.size + 1 + 1, 0, none⟩) n c 1 1 d epoB _ w3 ((h.below hb3).more hb3.size) hc hd hp (fun h => by cases h) hn (by show 5 ≤ 100000; omega) (by omega) (by show 4 + 0 ≤ 100000; omega) (hT.below hb3 hT.tab.1))
  have hwh : whole [(⟨some ⟨w.heap.size + 1, 0, none⟩, 4, 4, be4 e⟩ : Part)] = be4 e := by simp [whole]
  rw [hwh, epoB_sby] at HD
  clear h hk hr4 hp h4 h1 hb3 hb13 hw1 hw3 hwh
  go_enter Tryd.func48, Tryd.ntmps48
  go_wp2_with fail
  rw [HW1.out, HW3.out]
  refine HD.out.mono ?_
  rintro e2 w2 ⟨v2, rfl, hown2, hb2⟩
  obtain ⟨A5, c5, rfl, hc5, hn5⟩ := own_slice hown2
  have hk2 := (hb2.block w.heap.size (Array.getElem?_eq_some_iff.1 HK.out).1).trans HK.out
  have p2 : w2.frozen? ⟨w.heap.size, 0, none⟩ = false := free_of_blk hk2
  have p3 : w2.frozen? ⟨w.heap.size, 1, none⟩ = false := free_of_blk hk2
  have p0 : w2.cell? ⟨w.heap.size, 0, none⟩ = some (.int .i64 0) := cell_of_blk hk2 rfl
  have p1 : w2.cell? ⟨w.heap.size, 1, none⟩ = some (.slice none 0 0) := cell_of_blk hk2 rfl
  have HK2 := Lib.hid hk2
  have HO2 := Lib.hid hown2
  have HB2 := Lib.hid (HB3.out.trans (hb2.mono HB3.out.size))
  clear hown2 hb2 hk2 hc5 hn5
  go_wp2_with fail
  have hsub : ((w2.setCell ⟨w.heap.size, 0, none⟩ (.int .i64 e)).setCell ⟨w.heap.size, 1, none⟩ (.slice A5 32 c5)).heap[w.heap.size]? = some (.cells #[.int .i64 e, .slice A5 32 c5] 58 (0, 0)) := set_blk (set_blk HK2.out)
  have hO1 : Only (fun k => k = w.heap.size) w2 ((w2.setCell ⟨w.heap.size, 0, none⟩ (.int .i64 e)).setCell ⟨w.heap.size, 1, none⟩ (.slice A5 32 c5)) := (Only.setCell w2 ⟨w.heap.size, 0, none⟩ _).trans (Only.setCell _ ⟨w.heap.size, 1, none⟩ _) (fun _ _ h => h)
  have hbf : Below w.heap.size w ((w2.setCell ⟨w.heap.size, 0, none⟩ (.int .i64 e)).setCell ⟨w.heap.size, 1, none⟩ (.slice A5 32 c5)) := (HB2.out.setCell (Nat.le_refl _) _).setCell (Nat.le_refl _) _
  generalize (w2.setCell ⟨w.heap.size, 0, none⟩ (.int .i64 e)).setCell ⟨w.heap.size, 1, none⟩ (.slice A5 32 c5) = wf at *
  refine bodyPost_ret (results_cell_row (g := w.heap.size) rfl _ _ _ _ _ _ rfl hsub Tryd.underlying58 rfl (by kernel_rfl)) rfl ⟨A5, c5, rfl, ?_, hbf⟩
  exact own_low (Only.own hO1 HO2.out (fun k hk e => by have h1 := (HO2.out.lt k hk).1; omega)) (by omega)

/-- What is stored into a ring's block reads so. -/
theorem ring_stored {w : World} {g : Nat} {x y : Value} (h : w.heap[g]? = some (.cells #[x, y] 24 (0, 0))) (u v : Value) :
    ((w.setCell ⟨g, 0, none⟩ u).setCell ⟨g, 1, none⟩ v).heap[g]? = some (.cells #[u, v] 24 (0, 0)) ∧ Only (fun k => k = g) w ((w.setCell ⟨g, 0, none⟩ u).setCell ⟨g, 1, none⟩ v) :=
  ⟨set_blk (set_blk h), (Only.setCell w ⟨g, 0, none⟩ _).trans (Only.setCell _ ⟨g, 1, none⟩ _) (fun _ _ h => h)⟩

set_option maxHeartbeats 1600000 in
set_option maxRecDepth 100000 in
theorem new_any (keep : Int) (A : Option Addr) (n c : Nat) (d : List Int) (w : World) (h : Row .u8 w w.heap.size A n d) (hc : n ≤ c) (hd : ∀ x ∈ d, 0 ≤ x ∧ x ≤ 255) (hT : Lay w) :
    Calls Tryd.prog 26 #[.int .i64 keep, .slice A n c] w (NewTo keep d w.heap.size w) := by
  have hl := h.len
  have hb1 : Below w.heap.size w (w.alloc (.cells #[.int .i64 0, .slice none 0 0] 24)) := (Below.refl _ _).alloc (Nat.le_refl _) _
  have hk1 : (w.alloc (.cells #[.int .i64 0, .slice none 0 0] 24)).heap[w.heap.size]? = some (.cells #[.int .i64 0, .slice none 0 0] 24 (0, 0)) := heap_alloc_new w _
  have HSA : Hid ((w.alloc (.cells #[.int .i64 0, .slice none 0 0] 24)).heap.size = w.heap.size + 1) := by unfold Hid; simp
  have HB1 := Lib.hid hb1
  have HK1 := Lib.hid hk1
  have p0 : (w.alloc (.cells #[.int .i64 0, .slice none 0 0] 24)).cell? ⟨w.heap.size, 0, none⟩ = some (.int .i64 0) := cell_of_blk hk1 rfl
  have p1 : (w.alloc (.cells #[.int .i64 0, .slice none 0 0] 24)).cell? ⟨w.heap.size, 1, none⟩ = some (.slice none 0 0) := cell_of_blk hk1 rfl
  have p2 : (w.alloc (.cells #[.int .i64 0, .slice none 0 0] 24)).frozen? ⟨w.heap.size, 0, none⟩ = false := free_of_blk hk1
  have p3 : (w.alloc (.cells #[.int .i64 0, .slice none 0 0] 24)).frozen? ⟨w.heap.size, 1, none⟩ = false := free_of_blk hk1
  by_cases g0 : keep < 1
  · have hd0 : decide (keep < 1) = true := decide_eq_true g0
    refine Calls.mono (R := fun x w' => NoRing w.heap.size w 2 x w') ?_ (fun x w' hx => ⟨fun _ => hx, fun hh => absurd hh.1.1 (by omega)⟩)
    clear h hb1 hk1
    go_enter Tryd.func26, Tryd.ntmps26
    go_wp2
    refine bodyPost_ret (results_cell_one rfl _ _ w.heap.size #[.int .i64 0, .slice none 0 0] rfl (run_loadVar_row _ _ 24 24 _ (0, 0) _ HK1.out Tryd.underlying24 rfl (by kernel_rfl))) rfl ?_
    exact ⟨_, _, _, rfl, HB1.out⟩
  have hd0 : decide (keep < 1) = false := decide_eq_false g0
  by_cases g1 : 16 < keep
  · have hd1 : decide (16 < keep) = true := decide_eq_true g1
    refine Calls.mono (R := fun x w' => NoRing w.heap.size w 2 x w') ?_ (fun x w' hx => ⟨fun _ => hx, fun hh => absurd hh.1.2 (by omega)⟩)
    clear h hb1 hk1
    go_enter Tryd.func26, Tryd.ntmps26
    go_wp2
    refine bodyPost_ret (results_cell_one rfl _ _ w.heap.size #[.int .i64 0, .slice none 0 0] rfl (run_loadVar_row _ _ 24 24 _ (0, 0) _ HK1.out Tryd.underlying24 rfl (by kernel_rfl))) rfl ?_
    exact ⟨_, _, _, rfl, HB1.out⟩
  have hd1 : decide (16 < keep) = false := decide_eq_false g1
  by_cases g2 : n = 32
  · subst g2
    refine Calls.mono (R := fun x w' => ARing w.heap.size w keep [(1, keyOf d 1)] x w') ?_ (fun x w' hx => ⟨fun hh => absurd ⟨⟨by omega, by omega⟩, hl⟩ hh, fun _ => hx⟩)
    have HM := Lib.hid (made_any 1 A 32 c d (w.alloc (.cells #[.int .i64 0, .slice none 0 0] 24)) ((h.below hb1).more hb1.size) hc (by omega) hd (by omega) (hT.below hb1 hT.tab.1))
    clear h hb1 hk1 p0 p1 p2 p3
    go_enter Tryd.func26, Tryd.ntmps26
    go_wp2_with fail
    refine HM.out.mono ?_
    rintro e2 w2 ⟨A5, c5, rfl, hown2, hb2⟩
    obtain ⟨A5', c5', he, hc5, hn5⟩ := own_slice hown2
    injection he with he1 he2 he3
    subst he1 he3
    have hb3 : Below w2.heap.size w2 (w2.alloc (.cells #[.int .i64 1, .slice A5 32 c5] 58)) := (Below.refl _ _).alloc (Nat.le_refl _) _
    have hk3 := (hb3.block w.heap.size (by have := hb2.size; have h2 := HSA.out; omega)).trans ((hb2.block w.heap.size (by simp)).trans HK1.out)
    have q0 : (w2.alloc (.cells #[.int .i64 1, .slice A5 32 c5] 58)).cell? ⟨w.heap.size, 0, none⟩ = some (.int .i64 0) := cell_of_blk hk3 rfl
    have q1 : (w2.alloc (.cells #[.int .i64 1, .slice A5 32 c5] 58)).cell? ⟨w.heap.size, 1, none⟩ = some (.slice none 0 0) := cell_of_blk hk3 rfl
    have q2 : (w2.alloc (.cells #[.int .i64 1, .slice A5 32 c5] 58)).frozen? ⟨w.heap.size, 0, none⟩ = false := free_of_blk hk3
    have q3 : (w2.alloc (.cells #[.int .i64 1, .slice A5 32 c5] 58)).frozen? ⟨w.heap.size, 1, none⟩ = false := free_of_blk hk3
    have HST := Lib.hid (ring_stored hk3 (.int .i64 keep) (.slice (some ⟨w2.heap.size, 0, none⟩) 1 1))
    have hbw : Below w.heap.size w (w2.alloc (.cells #[.int .i64 1, .slice A5 32 c5] 58)) := (HB1.out.trans (hb2.mono HB1.out.size)).trans (hb3.mono (by have h1 := HB1.out.size; have h2 := hb2.size; omega))
    have hrow : KRow (w2.alloc (.cells #[.int .i64 1, .slice A5 32 c5] 58)) (w2.heap.size + 1) (some ⟨w2.heap.size, 0, none⟩) 1 [⟨1, ⟨A5, 32, c5, keyOf d 1⟩⟩] := KRow.of_blk (K := [⟨1, ⟨A5, 32, c5, keyOf d 1⟩⟩]) (heap_alloc_new w2 _) (by omega) rfl (fun k hk => by
      obtain rfl := List.mem_singleton.1 hk
      exact ⟨⟨((Row.of_own hown2).below hb3).more (by omega), hn5⟩, hc5, keyOf_byt d 1, by simp only; omega, by simp only; omega⟩)
    have hlt : w.heap.size < w2.heap.size := by have := hb2.size; have h2 := HSA.out; omega
    have hfr : Fresh w.heap.size (some ⟨w2.heap.size, 0, none⟩) [⟨1, ⟨A5, 32, c5, keyOf d 1⟩⟩] := ⟨fun b o e => by injection e with e; injection e with e1 e2; omega, fun k hk b o e => by
      obtain rfl := List.mem_singleton.1 hk
      have := own_addr hown2 b o e
      have h2 := HSA.out
      omega⟩
    have hni : NotIn w.heap.size 1 (some ⟨w2.heap.size, 0, none⟩) [⟨1, ⟨A5, 32, c5, keyOf d 1⟩⟩] := ⟨fun _ o e => by injection e with e; injection e with e1 e2; omega, fun k hk _ o e => by
      obtain rfl := List.mem_singleton.1 hk
      have := own_addr hown2 _ o e
      have h2 := HSA.out
      omega⟩
    have HR := Lib.hid hrow
    have HF := Lib.hid hfr
    have HI := Lib.hid hni
    have HBW := Lib.hid hbw
    have HSZ : Hid ((w2.alloc (.cells #[.int .i64 1, .slice A5 32 c5] 58)).heap.size = w2.heap.size + 1) := by unfold Hid; simp
    clear hown2 hb2 hb3 hk3 hrow hfr hni hlt hbw hc5 hn5
    go_wp2
    refine bodyPost_ret (results_cell_one rfl _ _ w.heap.size #[.int .i64 keep, .slice (some ⟨w2.heap.size, 0, none⟩) 1 1] rfl (run_loadVar_row _ _ 24 24 _ (0, 0) _ HST.out.1 Tryd.underlying24 rfl (by kernel_rfl))) rfl ?_
    exact ⟨_, _, _, _, rfl, (HR.out.set HI.out HST.out.2 (by rw [HSZ.out]; exact Nat.le_refl _)).more (by rw [← HSZ.out]; exact HST.out.2.size), rfl, HF.out, (fun h => by cases h), Nat.le_refl _, HST.out.2 |> fun ho => HBW.out.trans (ho.below (by have := HBW.out.size; omega) (fun k hk => Nat.le_of_eq hk.symm))⟩
  · have hd2 : decide ((n : Int) = 32) = false := by simp; omega
    refine Calls.mono (R := fun x w' => NoRing w.heap.size w 2 x w') ?_ (fun x w' hx => ⟨fun _ => hx, fun hh => absurd hh.2 (by omega)⟩)
    clear h hb1 hk1
    go_enter Tryd.func26, Tryd.ntmps26
    go_wp2
    refine bodyPost_ret (results_cell_one rfl _ _ w.heap.size #[.int .i64 0, .slice none 0 0] rfl (run_loadVar_row _ _ 24 24 _ (0, 0) _ HK1.out Tryd.underlying24 rfl (by kernel_rfl))) rfl ?_
    exact ⟨_, _, _, rfl, HB1.out⟩
end Go.Proofs.YtmkdbpdfonpfdaaDoor.Rg

/- Layer 9 (ring): the program's Right, as a contract. -/
namespace Go.Proofs.YtmkdbpdfonpfdaaDoor.Rg
open Go.RowKit Slc

set_option maxHeartbeats 1600000 in
set_option maxRecDepth 100000 in
theorem right_any (keep : Int) (A : Option Addr) (n c B : Nat) (K : List Kp) (w : World) (h : KRow w B A n K) (hB : B ≤ w.heap.size) (hn : n ≤ 4398046511104) :
    Calls Tryd.prog 27 #[.agg #[.int .i64 keep, .slice A n c]] w fun x w' => x = .returned (.bool (rt keep (ls K))) ∧ Below w.heap.size w w' := by
  have H := Lib.hid h
  have HBB := Lib.hid hB
  have hlen := h.len
  have HB0 : Hid (Below w.heap.size w (w.alloc (.cells #[.int .i64 keep, .slice A n c] 24))) := (Below.refl _ _).alloc (Nat.le_refl _) _
  have c0 : (w.alloc (.cells #[.int .i64 keep, .slice A n c] 24)).cell? ⟨w.heap.size, 0, none⟩ = some (.int .i64 keep) := cell_of_blk (heap_alloc_new w _) rfl
  have c1 : (w.alloc (.cells #[.int .i64 keep, .slice A n c] 24)).cell? ⟨w.heap.size, 1, none⟩ = some (.slice A n c) := cell_of_blk (heap_alloc_new w _) rfl
  clear h hB
  by_cases g0 : keep < 1
  · have hd : decide (keep < 1) = true := decide_eq_true g0
    have hf : rt keep (ls K) = false := rt_no fun hh => by have := hh.1; omega
    rw [hf]
    go_enter Tryd.func27, Tryd.ntmps27
    go_wp2
    go_ret
    exact ⟨rfl, HB0.out⟩
  by_cases g1 : 16 < keep
  · have hd0 : decide (keep < 1) = false := decide_eq_false g0
    have hd : decide (16 < keep) = true := decide_eq_true g1
    have hf : rt keep (ls K) = false := rt_no fun hh => by have := hh.2.1; omega
    rw [hf]
    go_enter Tryd.func27, Tryd.ntmps27
    go_wp2
    go_ret
    exact ⟨rfl, HB0.out⟩
  by_cases g2 : (n : Int) < 1
  · have hd0 : decide (keep < 1) = false := decide_eq_false g0
    have hd1 : decide (16 < keep) = false := decide_eq_false g1
    have hd : decide ((n : Int) < 1) = true := decide_eq_true g2
    have hf : rt keep (ls K) = false := rt_no fun hh => by have := hh.2.2.1; rw [ls_len] at this; omega
    rw [hf]
    go_enter Tryd.func27, Tryd.ntmps27
    go_wp2
    go_ret
    exact ⟨rfl, HB0.out⟩
  by_cases g3 : keep < (n : Int)
  · have hd0 : decide (keep < 1) = false := decide_eq_false g0
    have hd1 : decide (16 < keep) = false := decide_eq_false g1
    have hd2 : decide ((n : Int) < 1) = false := decide_eq_false g2
    have hd : decide (keep < (n : Int)) = true := decide_eq_true g3
    have hf : rt keep (ls K) = false := rt_no fun hh => by have := hh.2.2.2.1; rw [ls_len] at this; omega
    rw [hf]
    go_enter Tryd.func27, Tryd.ntmps27
    go_wp2
    go_ret
    exact ⟨rfl, HB0.out⟩
  have hd0 : decide (keep < 1) = false := decide_eq_false g0
  have hd1 : decide (16 < keep) = false := decide_eq_false g1
  have hd2 : decide ((n : Int) < 1) = false := decide_eq_false g2
  have hd3 : decide (keep < (n : Int)) = false := decide_eq_false g3
  go_enter Tryd.func27, Tryd.ntmps27
  go_wp2_with fail
  have hb1 : Below (w.heap.size + 1) (w.alloc (.cells #[.int .i64 keep, .slice A n c] 24)) (w.alloc (.cells #[.int .i64 keep, .slice A n c] 24)) := Below.refl _ _
  have HB1 := Lib.hid hb1
  have HC := Lib.hid (And.intro c0 c1)
  have HS1 : Hid ((w.alloc (.cells #[.int .i64 keep, .slice A n c] 24)).heap.size = w.heap.size + 1) := by unfold Hid; simp
  have HK1 := Lib.hid (H.out.below (HB0.out.mono HBB.out))
  generalize w.alloc (.cells #[.int .i64 keep, .slice A n c] 24) = w1 at *
  clear c0 c1 hb1
  go_loopw [3, 4, 30] (fun _ _ i wr => ∃ t : Nat, t ≤ n ∧ i = .int .i64 (t : Int) ∧ Hid (∀ j k, j < t → (ls K)[j]? = some k → gd (ls K) j k) ∧ Hid (Below (w.heap.size + 1) w1 wr)) (fun _ _ i _ => n - (intOf i).toNat)
  case atStart => exact ⟨0, Nat.zero_le _, rfl, Lib.hid (fun j k h => absurd h (by omega)), HB1⟩
  case round =>
    obtain ⟨t, ht, rfl, HG, HB⟩ := hrel
    have c1 := (HB.out.cell (p := ⟨w.heap.size, 1, none⟩) (by show w.heap.size < _; omega)).trans HC.out.2
    have HBW : Hid (Below w.heap.size w wr) := HB0.out.trans (HB.out.mono (by omega))
    by_cases hlt : t < n
    · obtain ⟨b, o, k, rfl, hbb, hk, hok, k0, k1⟩ := (HK1.out.below (HB.out.mono (by have := HBB.out; omega))).at hlt
      have hlt' : (t : Int) < (n : Int) := by omega
      have HOK := Lib.hid hok
      have HKA := Lib.hid (ls_at hk)
      clear hk hok
      obtain ⟨e, pA, pn, pc, xs⟩ := k
      simp only at k0 k1
      have HBA : Hid (Below w.heap.size w (wr.alloc (.cells #[.int .i64 e, .slice pA pn pc] 58))) := HBW.out.alloc HBW.out.size _
      by_cases q0 : pn = 32
      · subst q0
        by_cases q1 : e < 1
        · have hd5 : decide (e < 1) = true := decide_eq_true q1
          have hf : Hid (rt keep (ls K) = false) := rt_no fun hh => by
            have h1 := (hh.2.2.2.2 t _ HKA.out).2.1
            simp only at h1
            omega
          go_wp2
          go_ret
          exact ⟨congrArg (fun b => Ending.returned (.bool b)) hf.out.symm, HBA.out⟩
        by_cases q2 : 1048576 < e
        · have hd5 : decide (e < 1) = false := decide_eq_false q1
          have hd6 : decide (1048576 < e) = true := decide_eq_true q2
          have hf : Hid (rt keep (ls K) = false) := rt_no fun hh => by
            have h1 := (hh.2.2.2.2 t _ HKA.out).2.2.1
            simp only at h1
            omega
          go_wp2
          go_ret
          exact ⟨congrArg (fun b => Ending.returned (.bool b)) hf.out.symm, HBA.out⟩
        have hd5 : decide (e < 1) = false := decide_eq_false q1
        have hd6 : decide (1048576 < e) = false := decide_eq_false q2
        by_cases q3 : t = 0
        · subst q3
          rw [Nat.zero_mul, Nat.add_zero] at k0 k1
          have HG2 : Hid (∀ j k, j < 0 + 1 → (ls K)[j]? = some k → gd (ls K) j k) := fun j k hj hk => by
            obtain rfl : j = 0 := by omega
            rw [HKA.out] at hk
            injection hk with hk
            subst hk
            have h2 := HOK.out.len
            simp only at h2
            exact ⟨by simp only; omega, by simp only; omega, by simp only; omega, fun h => absurd h (by omega)⟩
          have HXB := Lib.hid HBA.out
          have HXN : Hid (Below (w.heap.size + 1) w1 (wr.alloc (.cells #[.int .i64 e, .slice pA 32 pc] 58))) := HB.out.alloc (by have := HB.out.size; have := HS1.out; omega) _
          have x0 : (wr.alloc (.cells #[.int .i64 e, .slice pA 32 pc] 58)).cell? ⟨wr.heap.size, 0, none⟩ = some (.int .i64 e) := cell_of_blk (heap_alloc_new wr _) rfl
          have x1 : (wr.alloc (.cells #[.int .i64 e, .slice pA 32 pc] 58)).cell? ⟨w.heap.size, 1, none⟩ = some (.slice (some ⟨b, o, none⟩) n c) := (HXN.out.cell (p := ⟨w.heap.size, 1, none⟩) (by show w.heap.size < _; omega)).trans HC.out.2
          have hd7 : decide ((0 : Int) < 0) = false := by decide
          go_wp2_with fail
          generalize wr.alloc (.cells #[.int .i64 e, .slice pA 32 pc] 58) = wx at *
          go_quiet (fail)
          have HXB1 := Lib.hid (below_drewN (q := nq) HXB.out)
          have HXN1 := Lib.hid (below_drewN (q := nq) HXN.out)
          clear HXB HXN HBA x0 x1
          generalize wx.drewN nq = wy at *
          go_wp2
          go_roundw
          case rel => exact ⟨0 + 1, by omega, by go_num, HG2, HXN1⟩
          case measure => simp [intOf]; omega
        · obtain ⟨q, hq⟩ : ∃ q, K[t - 1]? = some q := ⟨_, List.getElem?_eq_getElem (by omega)⟩
          obtain ⟨b', o', e1, -, hc⟩ := (HK1.out.below (HB.out.mono (by have := HBB.out; omega))).at_ (by omega)
          injection e1 with e1
          injection e1 with e1 e2
          subst e1 e2
          have k2 : (wr.alloc (.cells #[.int .i64 e, .slice pA 32 pc] 58)).cell? ⟨b, o + (t - 1) * 2, none⟩ = some (.int .i64 q.e) := ((Below.refl wr.heap.size wr).alloc (Nat.le_refl _) _).cell (p := ⟨b, o + (t - 1) * 2, none⟩) (by have h1 := HBW.out.size; have h2 := HBB.out; show b < _; omega) |>.trans (hc (t - 1) q hq 0 (by omega))
          have m1 : IntKind.i64.wrap ((t : Int) - 1) = (t : Int) - 1 := IntWalk.i64_in _ ⟨by omega, by omega⟩
          have p1 : (0 : Int) ≤ (t : Int) - 1 := by omega
          have p2 : (t : Int) - 1 < (n : Int) := by omega
          have n1 : ((t : Int) - 1).toNat = t - 1 := by omega
          have hd7 : decide ((0 : Int) < (t : Int)) = true := by simp; omega
          have hd7' : decide (0 < t) = true := by simp; omega
          have HXB := Lib.hid HBA.out
          have HXN : Hid (Below (w.heap.size + 1) w1 (wr.alloc (.cells #[.int .i64 e, .slice pA 32 pc] 58))) := HB.out.alloc (by have := HB.out.size; have := HS1.out; omega) _
          have x0 : (wr.alloc (.cells #[.int .i64 e, .slice pA 32 pc] 58)).cell? ⟨wr.heap.size, 0, none⟩ = some (.int .i64 e) := cell_of_blk (heap_alloc_new wr _) rfl
          have x1 : (wr.alloc (.cells #[.int .i64 e, .slice pA 32 pc] 58)).cell? ⟨w.heap.size, 1, none⟩ = some (.slice (some ⟨b, o, none⟩) n c) := (HXN.out.cell (p := ⟨w.heap.size, 1, none⟩) (by show w.heap.size < _; omega)).trans HC.out.2
          have HQ := HG.out (t - 1) (q.e, q.p.xs) (by omega) (ls_at hq)
          have HW := IntWalk.i64_in (q.e + 1) ⟨by have := HQ.2.1; simp only at this; omega, by have := HQ.2.2.1; simp only at this; omega⟩
          by_cases q4 : e = q.e + 1
          · have hd8 : (e != q.e + 1) = false := by rw [q4]; simp
            have Q4 := Lib.hid q4
            clear q4
            go_wp2_with fail
            generalize wr.alloc (.cells #[.int .i64 e, .slice pA 32 pc] 58) = wx at *
            have HG2 : Hid (∀ j k, j < t + 1 → (ls K)[j]? = some k → gd (ls K) j k) := fun j k hj hk => by
              by_cases hjt : j < t
              · exact HG.out j k hjt hk
              · obtain rfl : j = t := by omega
                rw [HKA.out] at hk
                injection hk with hk
                subst hk
                have h2 := HOK.out.len
                simp only at h2
                refine ⟨by simp only; omega, by simp only; omega, by simp only; omega, fun _ r hr => ?_⟩
                rw [ls_at hq] at hr
                injection hr with hr
                subst hr
                exact Q4.out
            go_quiet (fail)
            have HXB1 := Lib.hid (below_drewN (q := nq) HXB.out)
            have HXN1 := Lib.hid (below_drewN (q := nq) HXN.out)
            clear HXB HXN HBA x0 x1 k2
            generalize wx.drewN nq = wy at *
            go_wp2
            go_roundw
            case rel => exact ⟨t + 1, by omega, by go_num, HG2, HXN1⟩
            case measure => simp [intOf]; omega
          · have hd8 : (e != q.e + 1) = true := bne_iff_ne.2 q4
            have Q4 := Lib.hid q4
            clear q4
            go_wp2_with fail
            generalize wr.alloc (.cells #[.int .i64 e, .slice pA 32 pc] 58) = wx at *
            have hf : Hid (rt keep (ls K) = false) := rt_no fun hh => Q4.out ((hh.2.2.2.2 t _ HKA.out).2.2.2 (by omega) _ (ls_at hq))
            go_quiet (fail)
            have HXB1 := Lib.hid (below_drewN (q := nq) HXB.out)
            have HXN1 := Lib.hid (below_drewN (q := nq) HXN.out)
            clear HXB HXN HBA x0 x1 k2
            generalize wx.drewN nq = wy at *
            go_wp2
            go_ret
            exact ⟨congrArg (fun b => Ending.returned (.bool b)) hf.out.symm, HXB1.out⟩
      · have hd4 : decide ((pn : Int) = 32) = false := by simp; omega
        have hf : Hid (rt keep (ls K) = false) := rt_no fun hh => by
          have h1 := (hh.2.2.2.2 t _ HKA.out).1
          have h2 := HOK.out.len
          simp only at h1 h2
          omega
        by_cases q1 : e < 1
        · have hd5 : decide (e < 1) = true := decide_eq_true q1
          go_wp2
          go_ret
          exact ⟨congrArg (fun b => Ending.returned (.bool b)) hf.out.symm, HBA.out⟩
        have hd5 : decide (e < 1) = false := decide_eq_false q1
        by_cases q2 : 1048576 < e
        · have hd6 : decide (1048576 < e) = true := decide_eq_true q2
          go_wp2
          go_ret
          exact ⟨congrArg (fun b => Ending.returned (.bool b)) hf.out.symm, HBA.out⟩
        have hd6 : decide (1048576 < e) = false := decide_eq_false q2
        go_wp2
        go_ret
        exact ⟨congrArg (fun b => Ending.returned (.bool b)) hf.out.symm, HBA.out⟩
    · obtain rfl : t = n := by omega
      have hf : Hid (rt keep (ls K) = true) := rt_yes ⟨by omega, by omega, by rw [ls_len]; omega, by rw [ls_len]; omega, fun j k hj => HG.out j k (by have := (List.getElem?_eq_some_iff.1 hj).1; rw [ls_len] at this; omega) hj⟩
      go_wp2
      go_ret
      exact ⟨congrArg (fun b => Ending.returned (.bool b)) hf.out.symm, HBW.out⟩
end Go.Proofs.YtmkdbpdfonpfdaaDoor.Rg

/- Layer 9 (ring): the program's Now and Find, as contracts. -/
namespace Go.Proofs.YtmkdbpdfonpfdaaDoor.Rg
open Go.RowKit Slc

set_option maxHeartbeats 800000 in
set_option maxRecDepth 100000 in
theorem now_any (keep : Int) (A : Option Addr) (n c B : Nat) (K : List Kp) (w : World) (h : KRow w B A n K) (hB : B ≤ w.heap.size) (hn : n ≤ 4398046511104) :
    Calls Tryd.prog 20 #[.agg #[.int .i64 keep, .slice A n c]] w fun x w' => x = .returned (.int .i64 (now (ls K))) ∧ Below w.heap.size w w' := by
  have H := Lib.hid h
  have hlen := h.len
  have HB0 : Hid (Below w.heap.size w (w.alloc (.cells #[.int .i64 keep, .slice A n c] 24))) := (Below.refl _ _).alloc (Nat.le_refl _) _
  have c1 : (w.alloc (.cells #[.int .i64 keep, .slice A n c] 24)).cell? ⟨w.heap.size, 1, none⟩ = some (.slice A n c) := cell_of_blk (heap_alloc_new w _) rfl
  by_cases h0 : n = 0
  · subst h0
    have hK : K = [] := List.eq_nil_of_length_eq_zero hlen
    subst hK
    clear h
    go_enter Tryd.func20, Tryd.ntmps20
    go_wp2
    go_ret
    exact ⟨rfl, HB0.out⟩
  · obtain ⟨b, o, k, rfl, hbb, hk, hok, k0, -⟩ := (h.below (HB0.out.mono hB)).at (j := n - 1) (by omega)
    have hke : k.e = now (ls K) := by rw [now_at (by rw [ls_len, hlen]; exact ls_at hk)]
    rw [hke] at k0
    have m1 : IntKind.i64.wrap ((n : Int) - 1) = (n : Int) - 1 := IntWalk.i64_in _ ⟨by omega, by omega⟩
    have p1 : (0 : Int) ≤ (n : Int) - 1 := by omega
    have p2 : (n : Int) - 1 < (n : Int) := by omega
    have n1 : ((n : Int) - 1).toNat = n - 1 := by omega
    have hd : decide ((n : Int) = 0) = false := by simp; omega
    have hd' : ((n : Int) == 0) = false := by simp; omega
    clear h hk hok hke hlen
    go_enter Tryd.func20, Tryd.ntmps20
    go_wp2
    go_ret
    exact ⟨rfl, HB0.out⟩

set_option maxHeartbeats 1600000 in
set_option maxRecDepth 100000 in
theorem find_any (keep e : Int) (A : Option Addr) (n c B : Nat) (K : List Kp) (w : World) (h : KRow w B A n K) (hB : B ≤ w.heap.size) (hn : n ≤ 4398046511104) (hs : ∀ k ∈ K, k.p.n ≤ 1000) :
    Calls Tryd.prog 21 #[.agg #[.int .i64 keep, .slice A n c], .int .i64 e] w (FindTo w.heap.size w K e) := by
  have H := Lib.hid h
  have HBB := Lib.hid hB
  have HSM := Lib.hid hs
  have hlen := h.len
  have HB0 : Hid (Below w.heap.size w (w.alloc (.cells #[.int .i64 keep, .slice A n c] 24))) := (Below.refl _ _).alloc (Nat.le_refl _) _
  have c1 : (w.alloc (.cells #[.int .i64 keep, .slice A n c] 24)).cell? ⟨w.heap.size, 1, none⟩ = some (.slice A n c) := cell_of_blk (heap_alloc_new w _) rfl
  have HC := Lib.hid c1
  have HS1 : Hid ((w.alloc (.cells #[.int .i64 keep, .slice A n c] 24)).heap.size = w.heap.size + 1) := by unfold Hid; simp
  have HK1 := Lib.hid (H.out.below (HB0.out.mono HBB.out))
  clear h hB hs
  go_enter Tryd.func21, Tryd.ntmps21
  go_wp2_with fail
  generalize w.alloc (.cells #[.int .i64 keep, .slice A n c] 24) = w1 at *
  go_loopw [7, 11] (fun _ i wr => ∃ t : Nat, t ≤ n ∧ i = .int .i64 (t : Int) ∧ Hid (Below w1.heap.size w1 wr) ∧ Hid (∀ (j : Nat) (q : Kl), j < t → (ls K)[j]? = some q → q.1 ≠ e)) (fun _ i _ => n - (intOf i).toNat)
  case atStart => exact ⟨0, Nat.zero_le _, rfl, Lib.hid (Below.refl _ _), Lib.hid (fun j q h => absurd h (by omega))⟩
  case round =>
    obtain ⟨t, ht, rfl, HB, HG⟩ := hrel
    have HBW : Hid (Below w.heap.size w wr) := HB0.out.trans (HB.out.mono HB0.out.size)
    by_cases hlt : t < n
    · obtain ⟨b, o, k, rfl, hbb, hk, hok, k0, k1⟩ := (HK1.out.below (HB.out.mono (by have := HBB.out; have := HS1.out; omega))).at hlt
      have hlt' : (t : Int) < (n : Int) := by omega
      have HOK := Lib.hid hok
      have hsm := HSM.out k (List.mem_of_getElem? hk)
      have HKA := Lib.hid (ls_at hk)
      clear hk hok
      obtain ⟨ke, pA, pn, pc, xs⟩ := k
      simp only at k0 k1 hsm
      have HBA : Hid (Below w.heap.size w (wr.alloc (.cells #[.int .i64 ke, .slice pA pn pc] 58))) := HBW.out.alloc HBW.out.size _
      have HBR : Hid (Below w1.heap.size w1 (wr.alloc (.cells #[.int .i64 ke, .slice pA pn pc] 58))) := HB.out.alloc HB.out.size _
      have x0 : (wr.alloc (.cells #[.int .i64 ke, .slice pA pn pc] 58)).cell? ⟨wr.heap.size, 0, none⟩ = some (.int .i64 ke) := cell_of_blk (heap_alloc_new wr _) rfl
      have x1 : (wr.alloc (.cells #[.int .i64 ke, .slice pA pn pc] 58)).cell? ⟨wr.heap.size, 1, none⟩ = some (.slice pA pn pc) := cell_of_blk (heap_alloc_new wr _) rfl
      by_cases q0 : ke = e
      · subst q0
        have hf : Hid (fnd (ls K) ke = some xs) := fnd_hit HKA.out rfl HG.out
        have HCL := Lib.hid (clone_any pA pn pc B xs (wr.alloc (.cells #[.int .i64 ke, .slice pA pn pc] 58)) (HOK.out.right.1.below ((Below.refl B wr).alloc (Nat.le_trans HBB.out HBW.out.size) _)) HOK.out.right.2 (Nat.le_trans HBB.out HBA.out.size) (by omega))
        go_wp2_with fail
        refine HCL.out.mono ?_
        rintro e2 w2 ⟨v2, rfl, hown2, hb2⟩
        obtain ⟨A2, c2, rfl, hc2, hn2⟩ := own_slice hown2
        have HO2 := Lib.hid (Row.of_own hown2)
        have HB2 := Lib.hid (HBA.out.trans (hb2.mono HBA.out.size))
        have HN2 := Lib.hid (And.intro hc2 hn2)
        clear hown2 hb2 hc2 hn2
        go_wp2
        go_ret2
        refine ⟨A2, pn, c2, by rw [hf.out]; rfl, ?_, HN2.out.2, HN2.out.1, HB2.out⟩
        rw [hf.out]
        exact HO2.out
      · have hd : decide (ke = e) = false := decide_eq_false q0
        have hd' : (ke == e) = false := beq_eq_false_iff_ne.2 q0
        have HG2 : Hid (∀ (j : Nat) (q : Kl), j < t + 1 → (ls K)[j]? = some q → q.1 ≠ e) := fun j q hj hq => by
          by_cases hjt : j < t
          · exact HG.out j q hjt hq
          · obtain rfl : j = t := by omega
            rw [HKA.out] at hq
            injection hq with hq
            subst hq
            exact q0
        have Q0 := Lib.hid q0
        clear q0
        go_wp2
        go_roundw
        case rel => exact ⟨t + 1, by omega, by go_num, HBR, HG2⟩
        case measure => simp [intOf]; omega
    · obtain rfl : t = n := by omega
      have hf : Hid (fnd (ls K) e = none) := fnd_miss (fun j q hj => HG.out j q (by have := (List.getElem?_eq_some_iff.1 hj).1; rw [ls_len] at this; omega) hj)
      go_wp2
      go_ret2
      exact ⟨none, 0, 0, by rw [hf.out]; rfl, by rw [hf.out]; exact Row.none_, fun _ => rfl, Nat.le_refl _, HBW.out⟩
end Go.Proofs.YtmkdbpdfonpfdaaDoor.Rg

/- Layer 9 (ring): the program's rest and copied, as contracts. -/
namespace Go.Proofs.YtmkdbpdfonpfdaaDoor.Rg
open Go.RowKit Slc

/-- The last keys, at most q of them. -/
theorem krow_drop {w : World} {B n : Nat} {b o : Nat} {K : List Kp} (h : KRow w B (some ⟨b, o, none⟩) n K) (D : Nat) (hD : D ≤ n) : KRow w B (some ⟨b, o + D * 2, none⟩) (n - D) (K.drop D) := by
  refine ⟨by rw [List.length_drop, h.len], fun k hk => h.ok k (List.mem_of_mem_drop hk), fun hn => ?_⟩
  obtain ⟨b', o', e, hlt, hc⟩ := h.at_ (by omega)
  injection e with e
  injection e with e1 e2
  subst e1 e2
  refine ⟨b, o + D * 2, rfl, hlt, fun j k hj i hi => ?_⟩
  rw [List.getElem?_drop] at hj
  rw [show o + D * 2 + j * 2 + i = o + (D + j) * 2 + i by omega]
  exact hc (D + j) k hj i hi

set_option maxHeartbeats 800000 in
set_option maxRecDepth 100000 in
theorem rest_any (b o n c q D : Nat) (w : World) (hn : n ≤ c) (hb : n ≤ 1000000) (hq : q ≤ 1000000) (hD : D = n - q) :
    Calls Tryd.prog 47 #[.slice (some ⟨b, o, none⟩) n c, .int .i64 (q : Int)] w fun x w' => (∃ o', (D < n → o' = o + D * 2) ∧ x = .returned (.slice (some ⟨b, o', none⟩) (n - D) (n - D))) ∧ w' = w := by
  have m1 : IntKind.i64.wrap ((n : Int) - (q : Int)) = (n : Int) - (q : Int) := IntWalk.i64_in _ ⟨by omega, by omega⟩
  have m2 : max (0 : Int) ((n : Int) - (q : Int)) = (D : Int) := by omega
  have p1 : (D : Int) ≤ (n : Int) := by omega
  have p2 : (n : Int) ≤ (c : Int) := by omega
  have p3 : D ≤ n := by omega
  clear hD
  by_cases hDn : D < n
  · have q1 : ¬ (n - D = 0) := by omega
    go_enter Tryd.func47, Tryd.ntmps47
    go_wp2
    go_ret
    exact ⟨⟨_, fun _ => rfl, rfl⟩, rfl⟩
  · obtain rfl : D = n := by omega
    go_enter Tryd.func47, Tryd.ntmps47
    go_wp2
    go_ret
    exact ⟨⟨_, fun h => absurd h hDn, by rw [Nat.sub_self]; rfl⟩, rfl⟩

/-- Cells of keys that are not yet there. -/
def kz : Nat → List Value
  | 0 => []
  | m + 1 => .int .i64 0 :: .slice none 0 0 :: kz m
theorem kz_len : ∀ m, (kz m).length = m * 2
  | 0 => rfl
  | m + 1 => by simp only [kz, List.length_cons, kz_len m]; omega
theorem kz_at : ∀ (m j : Nat), j < m * 2 → (kz m)[j]? = some ((Value.agg #[.int .i64 0, .slice none 0 0]).cells[j % 2]!)
  | 0, j, h => by omega
  | m + 1, 0, _ => rfl
  | m + 1, 1, _ => rfl
  | m + 1, j + 2, h => by
    have := kz_at m j (by omega)
    rw [show (j + 2) % 2 = j % 2 by omega]
    simpa [kz] using this
theorem made_kz (m : Nat) : madeCells (Value.agg #[.int .i64 0, .slice none 0 0]).cells (m * 2) = (kz m).toArray := by
  apply Array.ext'
  apply List.ext_getElem?
  intro j
  by_cases hj : j < m * 2
  · rw [show (kz m).toArray.toList[j]? = (kz m)[j]? from rfl, kz_at m j hj]
    unfold madeCells
    simp [hj]
    rfl
  · rw [List.getElem?_eq_none (by rw [Array.length_toList, size_madeCells]; omega), List.getElem?_eq_none (by show (kz m).length ≤ j; rw [kz_len]; omega)]
theorem kz_free {C : List Kp} {m : Nat} (hm : 0 < m) : (kflat C ++ kz m).toArray[C.length * 2]? = some (.int .i64 0) ∧ (kflat C ++ kz m).toArray[C.length * 2 + 1]? = some (.slice none 0 0) := by
  obtain ⟨m, rfl⟩ : ∃ q, m = q + 1 := ⟨m - 1, by omega⟩
  have hl : (kflat C).length = C.length * 2 := kflat_len C
  rw [List.getElem?_toArray, List.getElem?_toArray, List.getElem?_append_right (by omega), List.getElem?_append_right (by omega), hl]
  simp [kz]
/-- A key is stored at its place. -/
theorem key_set (C : List Kp) (m : Nat) (e : Int) (p : Part) : (((kflat C ++ kz (m + 1)).toArray.setIfInBounds (C.length * 2) (.int .i64 e)).setIfInBounds (C.length * 2 + 1) p.v) = (kflat (C ++ [⟨e, p⟩]) ++ kz m).toArray := by
  have hl : (kflat C).length = C.length * 2 := kflat_len C
  rw [List.setIfInBounds_toArray, List.setIfInBounds_toArray, ← hl, List.set_append_right _ _ (Nat.le_refl _), List.set_append_right _ _ (Nat.le_succ _), kflat_snoc]
  simp [kz]

/-- While the keys go over: g the new block. -/
structure Cp (w0 : World) (g n : Nat) (K : List Kp) (t : Nat) (w' : World) : Prop where
  blk : ∃ C : List Kp, ls C = ls (K.take t) ∧ (∀ k ∈ C, k.Ok w' w'.heap.size ∧ ∀ b o, k.p.A = some ⟨b, o, none⟩ → g < b) ∧ w'.heap[g]? = some (.cells (kflat C ++ kz (n - t)).toArray 58 (0, 0))
  bel : Below g w0 w'

set_option maxHeartbeats 1600000 in
set_option maxRecDepth 100000 in
theorem copied_any (A : Option Addr) (n c : Nat) (K : List Kp) (w : World) (h : KRow w w.heap.size A n K) (hn : n ≤ 1000000) (hs : ∀ k ∈ K, k.p.n ≤ 1000) :
    Calls Tryd.prog 49 #[.slice A n c] w fun x w' => ∃ C, x = .returned (.slice (some ⟨w.heap.size, 0, none⟩) n n) ∧ KRow w' w'.heap.size (some ⟨w.heap.size, 0, none⟩) n C ∧ ls C = ls K ∧ Fresh w.heap.size (some ⟨w.heap.size, 0, none⟩) C ∧ Below w.heap.size w w' := by
  obtain ⟨i0, hi, hz0, hz1, hz2⟩ := Sha.parts_of info_key
  have hlen := h.len
  have kmk : (Instr.makeSlice 22 (.int .i64 (n : Int)) (.int .i64 (n : Int))).run Tryd.prog w = .ok (.slice (some ⟨w.heap.size, 0, none⟩) n n) (w.alloc (.cells (kz n).toArray 58)) :=
    (run_make w 22 58 i0 _ Tryd.underlying22 hi hz0 .i64 .i64 n n (by omega) (by omega) (by rw [hz2]; omega) (by omega)).trans (by rw [hz1, Int.toNat_natCast, made_kz])
  have HK := Lib.hid h
  have HSM := Lib.hid hs
  have hb1 : Below w.heap.size w (w.alloc (.cells (kz n).toArray 58)) := (Below.refl _ _).alloc (Nat.le_refl _) _
  have HC0 : Hid (Cp w w.heap.size n K 0 (w.alloc (.cells (kz n).toArray 58))) := ⟨⟨[], rfl, fun k hk => by simp at hk, by simpa [kflat] using heap_alloc_new w (.cells (kz n).toArray 58)⟩, hb1⟩
  clear h hs hb1
  go_enter Tryd.func49, Tryd.ntmps49
  go_wp2_with fail
  clear kmk
  go_loopw [4, 5, 11] (fun _ _ i wr => ∃ t : Nat, t ≤ n ∧ i = .int .i64 (t : Int) ∧ Hid (Cp w w.heap.size n K t wr)) (fun _ _ i _ => n - (intOf i).toNat)
  case atStart => exact ⟨0, Nat.zero_le _, rfl, HC0⟩
  case round =>
    obtain ⟨t, ht, rfl, HC⟩ := hrel
    by_cases hlt : t < n
    · obtain ⟨b, o, k, rfl, hbb, hk, hok, k0, k1⟩ := (HK.out.below HC.out.bel).at hlt
      have hlt' : (t : Int) < (n : Int) := by omega
      obtain ⟨C, hC1, hC2, hC3⟩ := HC.out.blk
      have hsm := HSM.out k (List.mem_of_getElem? hk)
      have hCl : C.length = t := by
        have := congrArg List.length hC1
        rw [ls_len, ls_len, List.length_take] at this
        omega
      have HKT := Lib.hid hk
      obtain ⟨e, pA, pn, pc, xs⟩ := k
      simp only at k0 k1 hsm
      have hbw := HC.out.bel.size
      have hba : Below wr.heap.size wr (wr.alloc (.cells #[.int .i64 e, .slice pA pn pc] 58)).drew := ((Below.refl _ _).alloc (Nat.le_refl _) _).drew
      have hsa : (wr.alloc (.cells #[.int .i64 e, .slice pA pn pc] 58)).drew.heap.size = wr.heap.size + 1 := by show (wr.alloc _).heap.size = _; simp
      have hgl : w.heap.size < wr.heap.size := (Array.getElem?_eq_some_iff.1 hC3).1
      have x0 : (wr.alloc (.cells #[.int .i64 e, .slice pA pn pc] 58)).drew.cell? ⟨wr.heap.size, 0, none⟩ = some (.int .i64 e) := cell_of_blk (w := (wr.alloc (.cells #[.int .i64 e, .slice pA pn pc] 58))) (heap_alloc_new wr _) rfl
      have x1 : (wr.alloc (.cells #[.int .i64 e, .slice pA pn pc] 58)).drew.cell? ⟨wr.heap.size, 1, none⟩ = some (.slice pA pn pc) := cell_of_blk (w := (wr.alloc (.cells #[.int .i64 e, .slice pA pn pc] 58))) (heap_alloc_new wr _) rfl
      have HX0 := Lib.hid x0
      have HX1 := Lib.hid x1
      have HCL := Lib.hid (clone_any pA pn pc w.heap.size xs (wr.alloc (.cells #[.int .i64 e, .slice pA pn pc] 58)).drew (hok.right.1.below (hba.mono hbw)) hok.right.2 (by omega) (by omega))
      have hblk := (hba.block w.heap.size hgl).trans hC3
      have HBLK := Lib.hid hblk
      have HOK := Lib.hid hok
      have HC2 := Lib.hid hC2
      have HC1 := Lib.hid hC1
      have HCL2 := Lib.hid hCl
      have HBA := Lib.hid hba
      have HSA := Lib.hid hsa
      have HGL := Lib.hid hgl
      have HBW := Lib.hid hbw
      have hne : ¬ (w.heap.size = wr.heap.size) := by omega
      have hfr := kz_free (C := C) (m := n - t) (by omega)
      rw [hCl] at hfr
      have HFR := Lib.hid hfr
      have HNE := Lib.hid hne
      clear hk hok hC1 hC2 hC3 hCl hba hsa hblk hne hfr
      go_wp2_with fail
      go_region_held3 (fun wx => wx.cell? ⟨wr.heap.size, 0, none⟩ = some (.int .i64 e) ∧ wx.cell? ⟨wr.heap.size, 1, none⟩ = some (.slice pA pn pc)) (first | exact ⟨x0, x1⟩ | exact ⟨y0, y1⟩ | (rw [World.cell?_setCell_other _ _ _ _ (by simp), World.cell?_setCell_other _ _ _ _ (by simp), World.cell?_setCell_other _ _ _ _ (by simp), World.cell?_setCell_other _ _ _ _ (by simp)]; exact ⟨y0, y1⟩)) (first
        | (go_at_call 46; (refine HCL.out.mono ?_); (rintro e5 w5 ⟨v5, rfl, hown5, hb5⟩); (obtain ⟨A5, c5, rfl, hc5, hn5⟩ := own_slice hown5; have hblk5 := (hb5.block w.heap.size (by have := HSA.out; have := HGL.out; omega)).trans HBLK.out; have y0 : w5.cell? ⟨wr.heap.size, 0, none⟩ = some (.int .i64 e) := (hb5.cell (p := ⟨wr.heap.size, 0, none⟩) (by have := HSA.out; show wr.heap.size < _; omega)).trans HX0.out; have y1 : w5.cell? ⟨wr.heap.size, 1, none⟩ = some (.slice pA pn pc) := (hb5.cell (p := ⟨wr.heap.size, 1, none⟩) (by have := HSA.out; show wr.heap.size < _; omega)).trans HX1.out; have v0 := cell_of_blk hblk5 HFR.out.1; have v1 := cell_of_blk hblk5 HFR.out.2; have z0 := free_of_blk (j := t * 2) hblk5; have z1 := free_of_blk (j := t * 2 + 1) hblk5; have HY0 := Lib.hid y0; have HBK5 := Lib.hid hblk5; have HB5 := Lib.hid hb5; have HO5 := Lib.hid hown5; have HCN5 := Lib.hid (And.intro hc5 hn5); clear hblk5 hb5 hown5 hc5 hn5)))
      have hO1 : Only (fun k => k = w.heap.size) w5 ((w5.setCell ⟨w.heap.size, t * 2, none⟩ (.int .i64 e)).setCell ⟨w.heap.size, t * 2 + 1, none⟩ (.slice A5 pn c5)) := (Only.setCell w5 ⟨w.heap.size, t * 2, none⟩ _).trans (Only.setCell _ ⟨w.heap.size, t * 2 + 1, none⟩ _) (fun _ _ h => h)
      have hblk6 : ((w5.setCell ⟨w.heap.size, t * 2, none⟩ (.int .i64 e)).setCell ⟨w.heap.size, t * 2 + 1, none⟩ (.slice A5 pn c5)).heap[w.heap.size]? = _ := set_blk (set_blk HBK5.out)
      have hC6 : Hid (Cp w w.heap.size n K (t + 1) ((w5.setCell ⟨w.heap.size, t * 2, none⟩ (.int .i64 e)).setCell ⟨w.heap.size, t * 2 + 1, none⟩ (.slice A5 pn c5))) := by
        have hb15 : Below wr.heap.size wr w5 := HBA.out.trans (HB5.out.mono HBA.out.size)
        refine ⟨⟨C ++ [⟨e, ⟨A5, pn, c5, xs⟩⟩], ?_, fun k hk => ?_, ?_⟩, HC.out.bel.trans ((hb15.mono HBW.out).trans (hO1.below (Nat.le_trans HBW.out hb15.size) (fun k hk => Nat.le_of_eq hk.symm)))⟩
        · obtain ⟨h1, h2⟩ := List.getElem?_eq_some_iff.1 HKT.out
          rw [List.take_succ_eq_append_getElem h1, h2]
          have h3 := HC1.out
          unfold ls at h3 ⊢
          rw [List.map_append, List.map_append, h3]
          rfl
        · rcases List.mem_append.1 hk with hk | hk
          · obtain ⟨h1, h2⟩ := HC2.out k hk
            have h3 : k.Ok w5 w5.heap.size := (h1.below hb15).more hb15.size
            exact ⟨(h3.only hO1 (Nat.le_refl _) (fun b o hb _ hm => by have := h2 b o hb; omega)).more hO1.size, h2⟩
          · obtain rfl := List.mem_singleton.1 hk
            have h3 : Row .u8 w5 w5.heap.size A5 pn xs := Row.of_own HO5.out
            have ha : ∀ b o, A5 = some ⟨b, o, none⟩ → w.heap.size < b := fun b o hb => by
              have h4 := own_addr HO5.out b o hb
              have h5 := HSA.out
              have h6 := HGL.out
              omega
            refine ⟨⟨⟨(hO1.row h3 (Nat.le_refl _) (fun b o hb _ hm => by have := ha b o hb; omega)).more hO1.size, HCN5.out.2⟩, HCN5.out.1, HOK.out.byt, HOK.out.lo, HOK.out.hi⟩, ha⟩
        · rw [hblk6]
          have h7 := key_set C (n - (t + 1)) e ⟨A5, pn, c5, xs⟩
          rw [show n - (t + 1) + 1 = n - t by omega, HCL2.out] at h7
          rw [← h7]
          rfl
      clear hO1 hblk6 x0 x1 y0 y1 v0 v1 z0 z1
      generalize (w5.setCell ⟨w.heap.size, t * 2, none⟩ (.int .i64 e)).setCell ⟨w.heap.size, t * 2 + 1, none⟩ (.slice A5 pn c5) = w6 at *
      go_wp2
      go_roundw
      case rel => exact ⟨t + 1, by omega, by go_num, hC6⟩
      case measure => simp [intOf]; omega
    · obtain rfl : t = n := by omega
      obtain ⟨C, hC1, hC2, hC3⟩ := HC.out.blk
      rw [List.take_of_length_le (by omega)] at hC1
      rw [Nat.sub_self, show kz 0 = [] from rfl, List.append_nil] at hC3
      have hCl : C.length = t := by
        have := congrArg List.length hC1
        rw [ls_len, ls_len] at this
        omega
      have HC1 := Lib.hid hC1
      have HR : Hid (KRow wr wr.heap.size (some ⟨w.heap.size, 0, none⟩) t C) := by
        have h1 := KRow.of_blk (B := wr.heap.size) (K := C) hC3 (Array.getElem?_eq_some_iff.1 hC3).1 rfl (fun k hk => (hC2 k hk).1)
        rw [hCl] at h1
        exact h1
      have HF : Hid (Fresh w.heap.size (some ⟨w.heap.size, 0, none⟩) C) := ⟨fun b o e => by injection e with e; injection e with e1 e2; omega, fun k hk b o e => Nat.le_of_lt ((hC2 k hk).2 b o e)⟩
      have HBB := Lib.hid HC.out.bel
      clear hC1 hC2 hC3 hCl HC HC0
      go_wp2
      go_ret
      exact ⟨C, rfl, HR.out, HC1.out, HF.out, HBB.out⟩
end Go.Proofs.YtmkdbpdfonpfdaaDoor.Rg

/- An append onto a slice of keys of epochs that has no room left, over any program. -/
namespace Go.Proofs.YtmkdbpdfonpfdaaDoor.Rg
open Go.RowKit Slc

theorem run_full_keys {P : Program} (w : World) (t e : TypeId) (i : TypeInfo) (z : Value) (bytes : Nat) (ht : P.underlying t = some (.slice e)) (hi : P.info? e = some i) (hz : i.zero = some z) (hz2 : z.cells.size = 2) (hsize : i.size = 2) (hby : i.bytes = bytes) (hb8 : bytes ≤ 100)
    {B B' : Nat} {b ad : Addr} {n m c : Nat} {K K' : List Kp} (h : KRow w B (some b) n K) (h' : KRow w B' (some ad) m K') (hm : 0 < m) (hn : n + m ≤ 1099511627776) :
    ∃ cap, ∃ w', (∀ ty, (Builtin.append_ #[t, t] ty #[.slice (some b) n n, .slice (some ad) m c]).run P w = .ok (.slice (some ⟨w.heap.size, 0, none⟩) (n + m) cap) w') ∧ w'.ownsRow w.heap.size e 2 (.slice (some ⟨w.heap.size, 0, none⟩) (n + m) cap) (n + m) (kflat (K ++ K')) ∧ Below w.heap.size w w' := by
  have hge := grownCap_ge w (n + m) n e
  have hcm : grownCap w (n + m) n e ≤ maxLen := grownCap_le_maxLen w (n + m) n e (by unfold maxLen; omega)
  have hl : (kflat K).length = n * 2 := by rw [kflat_len, h.len]
  have hl' : (kflat K').length = m * 2 := by rw [kflat_len, h'.len]
  refine ⟨grownCap w (n + m) n e, _, fun ty => run_append_grow (P := P) w t ty e i z ht hi hz b n n (kflat K) (by rw [hl, hsize]) (krow_news h) ad m c (kflat K') (by rw [hl', hsize]) (krow_news h') (by omega) (by omega) (growslice_fits (by omega) (by have := Nat.mul_le_mul hn hb8; rw [hby]; omega)),
    ⟨by rw [kflat_cat, List.length_append, hl, hl', Nat.add_mul], .inr ⟨w.heap.size, _, _, rfl, Nat.le_refl _, heap_alloc_new w.drew _, hge, hcm, ?_, ?_⟩⟩, (Below.refl w.heap.size w).drew.alloc (Nat.le_refl _) _⟩
  · simp only [Array.size_append, List.size_toArray, size_zeroCells, hz2, hl, hl', ← Nat.add_mul]
    congr 1
    omega
  · simp only [Array.toList_append, List.append_assoc]
    rw [kflat_cat, ← List.append_assoc, show (n + m) * 2 = (kflat K ++ kflat K').length by rw [List.length_append, hl, hl', Nat.add_mul]]
    exact List.take_left
end Go.Proofs.YtmkdbpdfonpfdaaDoor.Rg

/- Layer 9 (ring): the program's Rotate, as a contract. -/
namespace Go.Proofs.YtmkdbpdfonpfdaaDoor.Rg
open Go.RowKit Sha Slc

set_option maxHeartbeats 1600000 in
set_option maxRecDepth 100000 in
theorem rotate_no (keep : Int) (A A' : Option Addr) (n c n' c' : Nat) (K : List Kp) (d : List Int) (w : World) (h : KRow w w.heap.size A n K) (hs : Small n K) (h' : Row .u8 w w.heap.size A' n' d) (hno : ¬ (RtP keep (ls K) ∧ d.length = 32)) :
    Calls Tryd.prog 22 #[.agg #[.int .i64 keep, .slice A n c], .slice A' n' c'] w (NoRing w.heap.size w 2) := by
  have hl := h'.len
  obtain ⟨w2, hw2⟩ : ∃ w2, (w.alloc (.cells #[.int .i64 keep, .slice A n c] 24)).alloc (.cells #[.int .i64 0, .slice none 0 0] 24) = w2 := ⟨_, rfl⟩
  have hb2 : Below w.heap.size w w2 := by rw [← hw2]; exact ((Below.refl _ _).alloc (Nat.le_refl _) _).alloc (by simp) _
  have hs2 : w2.heap.size = w.heap.size + 1 + 1 := by rw [← hw2]; simp
  have g2 : w2.heap[w.heap.size + 1]? = some (.cells #[.int .i64 0, .slice none 0 0] 24 (0, 0)) := by rw [← hw2]; exact heap_alloc2_new w _ _
  have HR := Lib.hid (right_any keep A n c w.heap.size K w2 (h.below hb2) hb2.size (by have := hs.1; omega))
  have HW2 := Lib.hid hw2
  have HB2 := Lib.hid hb2
  have HS2 := Lib.hid hs2
  have HG2 := Lib.hid g2
  clear h h' hs hw2 hb2 hs2 g2
  by_cases hr : RtP keep (ls K)
  · have hn : n' ≠ 32 := fun h => hno ⟨hr, by omega⟩
    rw [rt_yes hr] at HR
    have hd' : ((n' : Int) != 32) = true := bne_iff_ne.2 (by omega)
    clear hno hr hn
    go_enter Tryd.func22, Tryd.ntmps22
    go_wp2_with fail
    rw [HW2.out]
    refine HR.out.mono ?_
    rintro e3 w3 ⟨rfl, hb3⟩
    have hk3 := (hb3.block (w.heap.size + 1) (by have := HS2.out; omega)).trans HG2.out
    have q0 : w3.cell? ⟨w.heap.size + 1, 0, none⟩ = some (.int .i64 0) := cell_of_blk hk3 rfl
    have q1 : w3.cell? ⟨w.heap.size + 1, 1, none⟩ = some (.slice none 0 0) := cell_of_blk hk3 rfl
    have q2 : w3.frozen? ⟨w.heap.size + 1, 0, none⟩ = false := free_of_blk hk3
    have q3 : w3.frozen? ⟨w.heap.size + 1, 1, none⟩ = false := free_of_blk hk3
    have HST := Lib.hid (ring_stored hk3 (.int .i64 0) (.slice none 0 0))
    have HB3 := Lib.hid (HB2.out.trans (hb3.mono HB2.out.size))
    clear hk3 hb3
    go_wp2
    refine bodyPost_ret (results_cell_one rfl _ _ (w.heap.size + 1) #[.int .i64 0, .slice none 0 0] rfl (run_loadVar_row _ _ 24 24 _ (0, 0) _ HST.out.1 Tryd.underlying24 rfl (by kernel_rfl))) rfl ?_
    exact ⟨_, _, _, rfl, HB3.out.trans (HST.out.2.below HB3.out.size (fun k hk => by omega))⟩
  · rw [rt_no hr] at HR
    clear hno hr
    go_enter Tryd.func22, Tryd.ntmps22
    go_wp2_with fail
    rw [HW2.out]
    refine HR.out.mono ?_
    rintro e3 w3 ⟨rfl, hb3⟩
    have hk3 := (hb3.block (w.heap.size + 1) (by have := HS2.out; omega)).trans HG2.out
    have q0 : w3.cell? ⟨w.heap.size + 1, 0, none⟩ = some (.int .i64 0) := cell_of_blk hk3 rfl
    have q1 : w3.cell? ⟨w.heap.size + 1, 1, none⟩ = some (.slice none 0 0) := cell_of_blk hk3 rfl
    have q2 : w3.frozen? ⟨w.heap.size + 1, 0, none⟩ = false := free_of_blk hk3
    have q3 : w3.frozen? ⟨w.heap.size + 1, 1, none⟩ = false := free_of_blk hk3
    have HST := Lib.hid (ring_stored hk3 (.int .i64 0) (.slice none 0 0))
    have HB3 := Lib.hid (HB2.out.trans (hb3.mono HB2.out.size))
    clear hk3 hb3
    go_wp2
    refine bodyPost_ret (results_cell_one rfl _ _ (w.heap.size + 1) #[.int .i64 0, .slice none 0 0] rfl (run_loadVar_row _ _ 24 24 _ (0, 0) _ HST.out.1 Tryd.underlying24 rfl (by kernel_rfl))) rfl ?_
    exact ⟨_, _, _, rfl, HB3.out.trans (HST.out.2.below HB3.out.size (fun k hk => by omega))⟩

set_option maxHeartbeats 1600000 in
set_option maxRecDepth 100000 in
theorem rotate_top (keep : Int) (A A' : Option Addr) (n c n' c' : Nat) (K : List Kp) (d : List Int) (w : World) (h : KRow w w.heap.size A n K) (hs : Small n K) (h' : Row .u8 w w.heap.size A' n' d) (hyes : RtP keep (ls K) ∧ d.length = 32) (htop : now (ls K) = 1048576) :
    Calls Tryd.prog 22 #[.agg #[.int .i64 keep, .slice A n c], .slice A' n' c'] w (NoRing w.heap.size w 3) := by
  have hl := h'.len
  obtain rfl : n' = 32 := by omega
  obtain ⟨w2, hw2⟩ : ∃ w2, (w.alloc (.cells #[.int .i64 keep, .slice A n c] 24)).alloc (.cells #[.int .i64 0, .slice none 0 0] 24) = w2 := ⟨_, rfl⟩
  have hb2 : Below w.heap.size w w2 := by rw [← hw2]; exact ((Below.refl _ _).alloc (Nat.le_refl _) _).alloc (by simp) _
  have hs2 : w2.heap.size = w.heap.size + 1 + 1 := by rw [← hw2]; simp
  have g1 : w2.heap[w.heap.size]? = some (.cells #[.int .i64 keep, .slice A n c] 24 (0, 0)) := by rw [← hw2]; exact heap_alloc2_old w _ _
  have g2 : w2.heap[w.heap.size + 1]? = some (.cells #[.int .i64 0, .slice none 0 0] 24 (0, 0)) := by rw [← hw2]; exact heap_alloc2_new w _ _
  have HR := Lib.hid (right_any keep A n c w.heap.size K w2 (h.below hb2) hb2.size (by have := hs.1; omega))
  rw [rt_yes hyes.1] at HR
  have HNOW : Hid (∀ w3, Below w2.heap.size w2 w3 → Calls Tryd.prog 20 #[.agg #[.int .i64 keep, .slice A n c]] w3 fun x w' => x = .returned (.int .i64 1048576) ∧ Below w3.heap.size w3 w') := fun w3 hb3 => by
    have h1 := now_any keep A n c w.heap.size K w3 ((h.below hb2).below (hb3.mono hb2.size)) (Nat.le_trans hb2.size hb3.size) (by have := hs.1; omega)
    rw [htop] at h1
    exact h1
  have HW2 := Lib.hid hw2
  have HB2 := Lib.hid hb2
  have HS2 := Lib.hid hs2
  have HG1 := Lib.hid g1
  have HG2 := Lib.hid g2
  clear h h' hs hw2 hb2 hs2 g1 g2 hyes htop hl
  go_enter Tryd.func22, Tryd.ntmps22
  go_wp2_with fail
  rw [HW2.out]
  refine HR.out.mono ?_
  rintro e3 w3 ⟨rfl, hb3⟩
  have HB3 := Lib.hid hb3
  have hk0 := (hb3.block w.heap.size (by have := HS2.out; omega)).trans HG1.out
  have y0 : w3.cell? ⟨w.heap.size, 0, none⟩ = some (.int .i64 keep) := cell_of_blk hk0 rfl
  have y1 : w3.cell? ⟨w.heap.size, 1, none⟩ = some (.slice A n c) := cell_of_blk hk0 rfl
  clear hk0 hb3
  go_wp2_with fail
  refine (HNOW.out w3 HB3.out).mono ?_
  rintro e4 w4 ⟨rfl, hb4⟩
  have hk3 := (hb4.block (w.heap.size + 1) (by have := HS2.out; have := HB3.out.size; omega)).trans ((HB3.out.block (w.heap.size + 1) (by have := HS2.out; omega)).trans HG2.out)
  have q0 : w4.cell? ⟨w.heap.size + 1, 0, none⟩ = some (.int .i64 0) := cell_of_blk hk3 rfl
  have q1 : w4.cell? ⟨w.heap.size + 1, 1, none⟩ = some (.slice none 0 0) := cell_of_blk hk3 rfl
  have q2 : w4.frozen? ⟨w.heap.size + 1, 0, none⟩ = false := free_of_blk hk3
  have q3 : w4.frozen? ⟨w.heap.size + 1, 1, none⟩ = false := free_of_blk hk3
  have HST := Lib.hid (ring_stored hk3 (.int .i64 0) (.slice none 0 0))
  have HB4 := Lib.hid ((HB2.out.trans (HB3.out.mono HB2.out.size)).trans (hb4.mono (Nat.le_trans HB2.out.size HB3.out.size)))
  clear hk3 hb4 y0 y1
  go_wp2
  refine bodyPost_ret (results_cell_one rfl _ _ (w.heap.size + 1) #[.int .i64 0, .slice none 0 0] rfl (run_loadVar_row _ _ 24 24 _ (0, 0) _ HST.out.1 Tryd.underlying24 rfl (by kernel_rfl))) rfl ?_
  exact ⟨_, _, _, rfl, HB4.out.trans (HST.out.2.below HB4.out.size (fun k hk => by omega))⟩

set_option maxHeartbeats 1600000 in
set_option maxRecDepth 100000 in
theorem rotate_yes (keep : Int) (A A' : Option Addr) (n c n' c' : Nat) (K : List Kp) (d : List Int) (w : World) (h : KRow w w.heap.size A n K) (hnc : n ≤ c) (hs : Small n K) (h' : Row .u8 w w.heap.size A' n' d) (hnc' : n' ≤ c') (hd : ∀ x ∈ d, 0 ≤ x ∧ x ≤ 255) (hT : Lay w) (hyes : RtP keep (ls K) ∧ d.length = 32) (htop : now (ls K) ≠ 1048576) :
    Calls Tryd.prog 22 #[.agg #[.int .i64 keep, .slice A n c], .slice A' n' c'] w (ARing w.heap.size w keep (rot keep (ls K) d)) := by
  have hl := h'.len
  obtain rfl : n' = 32 := by omega
  obtain ⟨i0, hi, hz0, hz1, hz2⟩ := Sha.parts_of info_key
  have hlen := h.len
  have hk1 := hyes.1.1
  have hk2 := hyes.1.2.1
  have hk3 := hyes.1.2.2.1
  have hk4 := hyes.1.2.2.2.1
  rw [ls_len] at hk3 hk4
  obtain ⟨b, o, rfl, hbb, -⟩ := h.at_ (by omega)
  obtain ⟨N, hN⟩ : ∃ N, now (ls K) = N := ⟨_, rfl⟩
  have hNb := now_le hyes.1
  rw [hN] at hNb htop
  obtain ⟨q, hq⟩ : ∃ q : Nat, keep = (q : Int) + 1 := ⟨keep.toNat - 1, by omega⟩
  obtain ⟨D, hD⟩ : ∃ D, D = n - q := ⟨_, rfl⟩
  have hD2 : (ls K).length + 1 - keep.toNat = D := by rw [ls_len]; omega
  obtain ⟨w2, hw2⟩ : ∃ w2, (w.alloc (.cells #[.int .i64 keep, .slice (some ⟨b, o, none⟩) n c] 24)).alloc (.cells #[.int .i64 0, .slice none 0 0] 24) = w2 := ⟨_, rfl⟩
  have hb2 : Below w.heap.size w w2 := by rw [← hw2]; exact ((Below.refl _ _).alloc (Nat.le_refl _) _).alloc (by simp) _
  have hs2 : w2.heap.size = w.heap.size + 1 + 1 := by rw [← hw2]; simp
  have g1 : w2.heap[w.heap.size]? = some (.cells #[.int .i64 keep, .slice (some ⟨b, o, none⟩) n c] 24 (0, 0)) := by rw [← hw2]; exact heap_alloc2_old w _ _
  have g2 : w2.heap[w.heap.size + 1]? = some (.cells #[.int .i64 0, .slice none 0 0] 24 (0, 0)) := by rw [← hw2]; exact heap_alloc2_new w _ _
  have HR := Lib.hid (right_any keep (some ⟨b, o, none⟩) n c w.heap.size K w2 (h.below hb2) hb2.size (by have := hs.1; omega))
  rw [rt_yes hyes.1] at HR
  have HNOW : Hid (∀ w3, Below w2.heap.size w2 w3 → Calls Tryd.prog 20 #[.agg #[.int .i64 keep, .slice (some ⟨b, o, none⟩) n c]] w3 fun x w' => x = .returned (.int .i64 N) ∧ Below w3.heap.size w3 w') := fun w3 hb3 => by
    have h1 := now_any keep (some ⟨b, o, none⟩) n c w.heap.size K w3 ((h.below hb2).below (hb3.mono hb2.size)) (Nat.le_trans hb2.size hb3.size) (by have := hs.1; omega)
    rw [hN] at h1
    exact h1
  have hqb : q ≤ 15 := by omega
  have hDn : D ≤ n := by omega
  have HDD := Lib.hid hD
  have HW2 := Lib.hid hw2
  have HB2 := Lib.hid hb2
  have HS2 := Lib.hid hs2
  have HG1 := Lib.hid g1
  have HG2 := Lib.hid g2
  have HK := Lib.hid h
  have HROW := Lib.hid h'
  have HSM := Lib.hid hs
  have HNN := Lib.hid hN
  have HD2 := Lib.hid hD2
  have HLAY := Lib.hid hT
  have HQ := Lib.hid hq
  have HNE : Hid (N ≠ 1048576) := htop
  have hde : decide (N = 1048576) = false := by simp [htop]
  have hde2 : (N == 1048576) = false := by simp [htop]
  have mm : IntKind.i64.wrap (keep - 1) = (q : Int) := by rw [IntWalk.i64_in _ ⟨by omega, by omega⟩]; omega
  have mN : IntKind.i64.wrap (N + 1) = N + 1 := IntWalk.i64_in _ ⟨by omega, by omega⟩
  clear h h' hs hw2 hb2 hs2 g1 g2 hyes hN hD2 hT hq htop hl hD
  go_enter Tryd.func22, Tryd.ntmps22
  go_wp2_with fail
  rw [HW2.out]
  refine HR.out.mono ?_
  rintro e3 w3 ⟨rfl, hb3⟩
  have HB3 := Lib.hid hb3
  have hk0 := (hb3.block w.heap.size (by have := HS2.out; omega)).trans HG1.out
  have y0 : w3.cell? ⟨w.heap.size, 0, none⟩ = some (.int .i64 keep) := cell_of_blk hk0 rfl
  have y1 : w3.cell? ⟨w.heap.size, 1, none⟩ = some (.slice (some ⟨b, o, none⟩) n c) := cell_of_blk hk0 rfl
  clear hk0 hb3
  go_wp2_with fail
  refine (HNOW.out w3 HB3.out).mono ?_
  rintro e4 w4 ⟨rfl, hb4⟩
  have HB4 := Lib.hid (HB3.out.trans (hb4.mono HB3.out.size))
  have hk0 := (HB4.out.block w.heap.size (by have := HS2.out; omega)).trans HG1.out
  have x0 : w4.cell? ⟨w.heap.size, 0, none⟩ = some (.int .i64 keep) := cell_of_blk hk0 rfl
  have x1 : w4.cell? ⟨w.heap.size, 1, none⟩ = some (.slice (some ⟨b, o, none⟩) n c) := cell_of_blk hk0 rfl
  clear hk0 hb4 y0 y1
  go_wp2_with fail
  refine (rest_any b o n c q D w4 hnc (by omega) (by omega) HDD.out).mono ?_
  rintro e5 w5 ⟨⟨o', ho', rfl⟩, rfl⟩
  have HB5 : Hid (Below w.heap.size w w5) := HB2.out.trans (HB4.out.mono HB2.out.size)
  have HREST : Hid (KRow w5 w.heap.size (some ⟨b, o', none⟩) (n - D) (K.drop D)) := by
    by_cases hlt : D < n
    · rw [ho' hlt]
      exact krow_drop (HK.out.below HB5.out) D hDn
    · rw [show n - D = 0 by omega, List.drop_of_length_le (by omega)]
      exact KRow.nil_
  have HM := Lib.hid (made_any (N + 1) A' 32 c' d w5 ((HROW.out.below HB5.out).more HB5.out.size) hnc' (by omega) hd (by omega) (HLAY.out.below HB5.out HLAY.out.tab.1))
  clear ho' hde hde2
  go_wp2_with fail
  refine HM.out.mono ?_
  rintro e6 w6 ⟨A5, c5, rfl, hown6, hb6⟩
  obtain ⟨A5', c5', he, hc5, hn5⟩ := own_slice hown6
  injection he with he1 he2 he3
  subst he1 he3
  obtain ⟨w7, hw7⟩ : ∃ w7, w6.alloc (.cells #[.int .i64 (N + 1), .slice A5 32 c5] 58) = w7 := ⟨_, rfl⟩
  have hb67 : Below w6.heap.size w6 w7 := by rw [← hw7]; exact (Below.refl _ _).alloc (Nat.le_refl _) _
  have hs7 : w7.heap.size = w6.heap.size + 1 := by rw [← hw7]; simp
  have hb57 : Below w5.heap.size w5 w7 := hb6.trans (hb67.mono hb6.size)
  have hrow7 : KRow w7 w7.heap.size (some ⟨w6.heap.size, 0, none⟩) 1 [⟨N + 1, ⟨A5, 32, c5, keyOf d (N + 1)⟩⟩] := KRow.of_blk (K := [⟨N + 1, ⟨A5, 32, c5, keyOf d (N + 1)⟩⟩]) (by rw [← hw7]; exact heap_alloc_new w6 _) (by omega) rfl (fun k hk => by
    obtain rfl := List.mem_singleton.1 hk
    exact ⟨⟨((Row.of_own hown6).below hb67).more (by omega), hn5⟩, hc5, keyOf_byt d (N + 1), by simp only; omega, by simp only; omega⟩)
  have hrest7 : KRow w7 w7.heap.size (some ⟨b, o', none⟩) (n - D) (K.drop D) := (HREST.out.below (hb57.mono HB5.out.size)).more (by have := HB5.out.size; have := hb57.size; omega)
  obtain ⟨cap, w8, hrun, hown8, hb8⟩ := run_full_keys (P := Tryd.prog) w7 22 58 i0 (.agg #[.int .i64 0, .slice none 0 0]) 32 Tryd.underlying22 hi hz0 rfl hz1 hz2 (by omega) (c := 1) hrest7 hrow7 (by omega) (by omega)
  have HRUN := Lib.hid hrun
  have HW7 := Lib.hid hw7
  have hb58 : Below w5.heap.size w5 w8 := hb57.trans (hb8.mono hb57.size)
  have HB8 := Lib.hid (HB5.out.trans (hb58.mono HB5.out.size))
  have hok8 : ∀ k ∈ K.drop D ++ [⟨N + 1, ⟨A5, 32, c5, keyOf d (N + 1)⟩⟩], k.Ok w8 w8.heap.size := fun k hk => by
    rcases List.mem_append.1 hk with hk | hk
    · exact ((hrest7.ok k hk).below hb8).more hb8.size
    · exact ((hrow7.ok k hk).below hb8).more hb8.size
  have HKR8 := Lib.hid (KRow.of_own hown8 hok8)
  have HS8 : Hid (w.heap.size + 1 < w8.heap.size) := by have h1 := HS2.out; have h2 := HB4.out.size; have h3 := hb58.size; unfold Hid; omega
  have hkr8 : KRow w8.drew w8.drew.heap.size (some ⟨w7.heap.size, 0, none⟩) (n - D + 1) (K.drop D ++ [⟨N + 1, ⟨A5, 32, c5, keyOf d (N + 1)⟩⟩]) := HKR8.out.below (Below.refl _ _).drew
  have hcop := copied_any (some ⟨w7.heap.size, 0, none⟩) (n - D + 1) cap _ w8.drew hkr8 (by omega) (fun k hk => by
    rcases List.mem_append.1 hk with hk | hk
    · exact HSM.out.2 k (List.mem_of_mem_drop hk)
    · obtain rfl := List.mem_singleton.1 hk
      show 32 ≤ 1000
      omega)
  have HCOP := Lib.hid hcop
  have hk0 := (hb58.block w.heap.size (by have h1 := HS2.out; have h2 := HB4.out.size; omega)).trans ((HB4.out.block w.heap.size (by have := HS2.out; omega)).trans HG1.out)
  have hk1 := (hb58.block (w.heap.size + 1) (by have h1 := HS2.out; have h2 := HB4.out.size; omega)).trans ((HB4.out.block (w.heap.size + 1) (by have := HS2.out; omega)).trans HG2.out)
  have y0 : w8.drew.cell? ⟨w.heap.size, 0, none⟩ = some (.int .i64 keep) := cell_of_blk (w := w8) hk0 rfl
  have HY0 := Lib.hid y0
  have HK81 : Hid (w8.drew.heap[w.heap.size + 1]? = some (.cells #[.int .i64 0, .slice none 0 0] 24 (0, 0))) := hk1
  have HNEW : Hid (ls (K.drop D ++ [⟨N + 1, ⟨A5, 32, c5, keyOf d (N + 1)⟩⟩]) = rot keep (ls K) d) := by
    unfold Hid rot
    rw [HD2.out, HNN.out]
    unfold ls
    rw [List.map_append, List.map_drop]
    rfl
  clear hown6 hb6 hc5 hn5 hw7 hb67 hs7 hb57 hrow7 hrest7 hown8 hb8 hok8 hb58 hcop hkr8 hk0 hk1 x0 x1 hrun
  go_wp2_with (at_builtin; rw [HW7.out]; refine Lib.wpList_append_run _ rfl _ _ _ _ rfl _ _ rfl rfl _ _ (HRUN.out _) ?_)
  go_region_held3 (fun wx => wx.cell? ⟨w.heap.size, 0, none⟩ = some (.int .i64 keep)) (first | exact y0 | exact z0 | (rw [World.cell?_setCell_other _ _ _ _ (by simp), World.cell?_setCell_other _ _ _ _ (by simp)]; exact z0)) (first
    | (go_at_call 49; (refine HCOP.out.mono ?_); (rintro e9 w9 ⟨C, rfl, hk9, hls9, hfr9, hb9⟩); (have HB9 := Lib.hid (HB8.out.drew.trans (hb9.mono HB8.out.size)); have hk90 := (hb9.block w.heap.size (by have := HS8.out; show w.heap.size < w8.heap.size; omega)); have hk91 := (hb9.block (w.heap.size + 1) HS8.out).trans HK81.out; have z0 : w9.cell? ⟨w.heap.size, 0, none⟩ = some (.int .i64 keep) := (hb9.cell (p := ⟨w.heap.size, 0, none⟩) (by have := HS8.out; show w.heap.size < w8.heap.size; omega)).trans HY0.out; have q0 : w9.cell? ⟨w.heap.size + 1, 0, none⟩ = some (.int .i64 0) := cell_of_blk hk91 rfl; have q1 : w9.cell? ⟨w.heap.size + 1, 1, none⟩ = some (.slice none 0 0) := cell_of_blk hk91 rfl; have q2 : w9.frozen? ⟨w.heap.size + 1, 0, none⟩ = false := free_of_blk hk91; have q3 : w9.frozen? ⟨w.heap.size + 1, 1, none⟩ = false := free_of_blk hk91; have HST := Lib.hid (ring_stored hk91 (.int .i64 keep) (.slice (some ⟨w8.heap.size, 0, none⟩) (n - D + 1) (n - D + 1))); have HK9 := Lib.hid hk9; have HLS9 := Lib.hid hls9; have HFR9 := Lib.hid hfr9; clear hk9 hls9 hfr9 hb9 hk90 hk91)))
  go_wp2
  refine bodyPost_ret (results_cell_one rfl _ _ (w.heap.size + 1) #[.int .i64 keep, .slice (some ⟨w8.heap.size, 0, none⟩) (n - D + 1) (n - D + 1)] rfl (run_loadVar_row _ _ 24 24 _ (0, 0) _ HST.out.1 Tryd.underlying24 rfl (by kernel_rfl))) rfl ?_
  exact ⟨_, _, _, C, rfl, (HK9.out.set (HFR9.out.notIn HS8.out) HST.out.2 (Nat.le_refl _)).more HST.out.2.size, HLS9.out.trans HNEW.out, ⟨fun b o e => Nat.le_trans HB8.out.size (HFR9.out.row b o e), fun k hk b o e => Nat.le_trans HB8.out.size (HFR9.out.keys k hk b o e)⟩, (fun h => by cases h), Nat.le_refl _, HB9.out.trans (HST.out.2.below HB9.out.size (fun k hk => by omega))⟩
end Go.Proofs.YtmkdbpdfonpfdaaDoor.Rg

/- Layer 9 (ring): the program's functions do what the laws' walks ask of them. -/
namespace Go.Proofs.YtmkdbpdfonpfdaaDoor.Rg
open Go.RowKit Sha Slc

theorem right_ok : RightOk := fun keep A n c K w h _ _ hs _ => right_any keep A n c w.heap.size K w h (Nat.le_refl _) (by have := hs.1; omega)
theorem now_ok : NowOk := fun keep A n c K w h _ _ hs _ => now_any keep A n c w.heap.size K w h (Nat.le_refl _) (by have := hs.1; omega)
theorem find_ok : FindOk := fun keep e A n c K w h _ _ hs _ _ => find_any keep e A n c w.heap.size K w h (Nat.le_refl _) (by have := hs.1; omega) hs.2
theorem new_ok : NewOk := fun keep A n c d w h _ hc _ hd _ hT => new_any keep A n c d w h hc hd hT
theorem rotate_ok : RotateOk := fun keep A A' n c n' c' K d w h _ hnc hs _ h' _ hnc' _ hd hT => by
  by_cases hyes : RtP keep (ls K) ∧ d.length = 32
  · by_cases htop : now (ls K) = 1048576
    · exact (rotate_top keep A A' n c n' c' K d w h hs h' hyes htop).mono fun x w' hx => ⟨fun hn => absurd hyes hn, fun _ _ => hx, fun _ hn => absurd htop hn⟩
    · exact (rotate_yes keep A A' n c n' c' K d w h hnc hs h' hnc' hd hT hyes htop).mono fun x w' hx => ⟨fun hn => absurd hyes hn, fun _ hn => absurd hn htop, fun _ _ => hx⟩
  · exact (rotate_no keep A A' n c n' c' K d w h hs h' hyes).mono fun x w' hx => ⟨fun _ => hx, fun hn => absurd hn hyes, fun hn => absurd hn hyes⟩
end Go.Proofs.YtmkdbpdfonpfdaaDoor.Rg

/- Layer 10 (token): the program's within, May and Fields, as contracts. -/
namespace Go.Proofs.YtmkdbpdfonpfdaaDoor.Tok
open Go.RowKit Var Fld Frm Sha Hmc Rg

set_option maxRecDepth 100000 in
theorem within_any (n lo hi : Int) (w : World) : Calls Tryd.prog 33 #[.int .i64 n, .int .i64 lo, .int .i64 hi] w fun x w' => x = .returned (.bool (fr n lo hi)) ∧ w' = w := by
  unfold fr
  by_cases h0 : lo ≤ n
  · have d0 : decide (lo ≤ n) = true := decide_eq_true h0
    rw [d0]
    go_enter Tryd.func33, Tryd.ntmps33
    go_wp2
    go_ret
    exact ⟨rfl, rfl⟩
  · have d0 : decide (lo ≤ n) = false := decide_eq_false h0
    rw [d0]
    go_enter Tryd.func33, Tryd.ntmps33
    go_wp2
    go_ret
    exact ⟨rfl, rfl⟩

set_option maxHeartbeats 1600000 in
set_option maxRecDepth 100000 in
theorem may_any (t : T) (w : World) : Calls Tryd.prog 12 #[t.val] w fun x w' => x = .returned (.bool (decide t.may)) ∧ Below w.heap.size w w' := by
  have hb : Below w.heap.size w (w.alloc (.cells t.cells 26)) := (Below.refl _ _).alloc (Nat.le_refl _) _
  have HB := Lib.hid hb
  have k0 : (w.alloc (.cells t.cells 26)).cell? ⟨w.heap.size, 0, none⟩ = some (.int .i64 t.tr) := cell_of_blk (heap_alloc_new w _) rfl
  have k1 : (w.alloc (.cells t.cells 26)).cell? ⟨w.heap.size, 1, none⟩ = some (.int .i64 t.ac) := cell_of_blk (heap_alloc_new w _) rfl
  have k2 : (w.alloc (.cells t.cells 26)).cell? ⟨w.heap.size, 2, none⟩ = some (.int .i64 t.st) := cell_of_blk (heap_alloc_new w _) rfl
  have k3 : (w.alloc (.cells t.cells 26)).cell? ⟨w.heap.size, 3, none⟩ = some (.int .i64 t.is) := cell_of_blk (heap_alloc_new w _) rfl
  have k4 : (w.alloc (.cells t.cells 26)).cell? ⟨w.heap.size, 4, none⟩ = some (.int .i64 t.un) := cell_of_blk (heap_alloc_new w _) rfl
  have k5 : (w.alloc (.cells t.cells 26)).cell? ⟨w.heap.size, 5, none⟩ = some (.int .i64 t.ep) := cell_of_blk (heap_alloc_new w _) rfl
  have arm := fun n lo hi w => Lib.hid (within_any n lo hi w)
  unfold T.val
  have hm : t.may ↔ (fr t.tr 1 2147483648 = true ∧ fr t.ac 1 2147483648 = true ∧ fr t.st 0 4095 = true ∧ fr t.un 0 1099511627776 = true ∧ fr t.is 0 t.un = true ∧ fr t.ep 1 1048576 = true) := by
    unfold T.may fr
    simp only [Bool.and_eq_true, decide_eq_true_eq]
    omega
  have HM := Lib.hid hm
  have eC : t.cells = #[.int .i64 t.tr, .int .i64 t.ac, .int .i64 t.st, .int .i64 t.is, .int .i64 t.un, .int .i64 t.ep] := rfl
  have HR : Hid (∃ b : Bool, b = decide t.may) := ⟨_, rfl⟩
  obtain ⟨b, hb2⟩ := HR.out
  rw [← hb2]
  have HB2 := Lib.hid hb2
  rw [eC] at k0 k1 k2 k3 k4 k5 HB ⊢
  clear hb hm hb2 HR eC
  cases htr : fr t.tr 1 2147483648
  · have Htr : Hid (fr t.tr 1 2147483648 = false) := htr
    clear htr
    go_enter Tryd.func12, Tryd.ntmps12
    go_wp2_with (go_at_call 33; first
      | ((with_reducible refine (arm t.tr 1 2147483648 _).out.mono ?_); rintro etr wtr ⟨rfl, rfl⟩; rw [Htr.out]))
    go_ret
    exact ⟨congrArg (fun b => Ending.returned (.bool b)) (HB2.out.trans (decide_eq_false (fun h => by have h1 := (HM.out.1 h).1; rw [Htr.out] at h1; cases h1))).symm, HB.out⟩
  have Htr : Hid (fr t.tr 1 2147483648 = true) := htr
  clear htr
  cases hac : fr t.ac 1 2147483648
  · have Hac : Hid (fr t.ac 1 2147483648 = false) := hac
    clear hac
    go_enter Tryd.func12, Tryd.ntmps12
    go_wp2_with (go_at_call 33; first
      | ((with_reducible refine (arm t.tr 1 2147483648 _).out.mono ?_); rintro etr wtr ⟨rfl, rfl⟩; rw [Htr.out])
      | ((with_reducible refine (arm t.ac 1 2147483648 _).out.mono ?_); rintro eac wac ⟨rfl, rfl⟩; rw [Hac.out]))
    go_ret
    exact ⟨congrArg (fun b => Ending.returned (.bool b)) (HB2.out.trans (decide_eq_false (fun h => by have h1 := (HM.out.1 h).2.1; rw [Hac.out] at h1; cases h1))).symm, HB.out⟩
  have Hac : Hid (fr t.ac 1 2147483648 = true) := hac
  clear hac
  cases hst : fr t.st 0 4095
  · have Hst : Hid (fr t.st 0 4095 = false) := hst
    clear hst
    go_enter Tryd.func12, Tryd.ntmps12
    go_wp2_with (go_at_call 33; first
      | ((with_reducible refine (arm t.tr 1 2147483648 _).out.mono ?_); rintro etr wtr ⟨rfl, rfl⟩; rw [Htr.out])
      | ((with_reducible refine (arm t.ac 1 2147483648 _).out.mono ?_); rintro eac wac ⟨rfl, rfl⟩; rw [Hac.out])
      | ((with_reducible refine (arm t.st 0 4095 _).out.mono ?_); rintro est wst ⟨rfl, rfl⟩; rw [Hst.out]))
    go_ret
    exact ⟨congrArg (fun b => Ending.returned (.bool b)) (HB2.out.trans (decide_eq_false (fun h => by have h1 := (HM.out.1 h).2.2.1; rw [Hst.out] at h1; cases h1))).symm, HB.out⟩
  have Hst : Hid (fr t.st 0 4095 = true) := hst
  clear hst
  cases hun : fr t.un 0 1099511627776
  · have Hun : Hid (fr t.un 0 1099511627776 = false) := hun
    clear hun
    go_enter Tryd.func12, Tryd.ntmps12
    go_wp2_with (go_at_call 33; first
      | ((with_reducible refine (arm t.tr 1 2147483648 _).out.mono ?_); rintro etr wtr ⟨rfl, rfl⟩; rw [Htr.out])
      | ((with_reducible refine (arm t.ac 1 2147483648 _).out.mono ?_); rintro eac wac ⟨rfl, rfl⟩; rw [Hac.out])
      | ((with_reducible refine (arm t.st 0 4095 _).out.mono ?_); rintro est wst ⟨rfl, rfl⟩; rw [Hst.out])
      | ((with_reducible refine (arm t.un 0 1099511627776 _).out.mono ?_); rintro eun wun ⟨rfl, rfl⟩; rw [Hun.out]))
    go_ret
    exact ⟨congrArg (fun b => Ending.returned (.bool b)) (HB2.out.trans (decide_eq_false (fun h => by have h1 := (HM.out.1 h).2.2.2.1; rw [Hun.out] at h1; cases h1))).symm, HB.out⟩
  have Hun : Hid (fr t.un 0 1099511627776 = true) := hun
  clear hun
  cases his : fr t.is 0 t.un
  · have His : Hid (fr t.is 0 t.un = false) := his
    clear his
    go_enter Tryd.func12, Tryd.ntmps12
    go_wp2_with (go_at_call 33; first
      | ((with_reducible refine (arm t.tr 1 2147483648 _).out.mono ?_); rintro etr wtr ⟨rfl, rfl⟩; rw [Htr.out])
      | ((with_reducible refine (arm t.ac 1 2147483648 _).out.mono ?_); rintro eac wac ⟨rfl, rfl⟩; rw [Hac.out])
      | ((with_reducible refine (arm t.st 0 4095 _).out.mono ?_); rintro est wst ⟨rfl, rfl⟩; rw [Hst.out])
      | ((with_reducible refine (arm t.un 0 1099511627776 _).out.mono ?_); rintro eun wun ⟨rfl, rfl⟩; rw [Hun.out])
      | ((with_reducible refine (arm t.is 0 t.un _).out.mono ?_); rintro eis wis ⟨rfl, rfl⟩; rw [His.out]))
    go_ret
    exact ⟨congrArg (fun b => Ending.returned (.bool b)) (HB2.out.trans (decide_eq_false (fun h => by have h1 := (HM.out.1 h).2.2.2.2.1; rw [His.out] at h1; cases h1))).symm, HB.out⟩
  have His : Hid (fr t.is 0 t.un = true) := his
  clear his
  cases hep : fr t.ep 1 1048576
  · have Hep : Hid (fr t.ep 1 1048576 = false) := hep
    clear hep
    go_enter Tryd.func12, Tryd.ntmps12
    go_wp2_with (go_at_call 33; first
      | ((with_reducible refine (arm t.tr 1 2147483648 _).out.mono ?_); rintro etr wtr ⟨rfl, rfl⟩; rw [Htr.out])
      | ((with_reducible refine (arm t.ac 1 2147483648 _).out.mono ?_); rintro eac wac ⟨rfl, rfl⟩; rw [Hac.out])
      | ((with_reducible refine (arm t.st 0 4095 _).out.mono ?_); rintro est wst ⟨rfl, rfl⟩; rw [Hst.out])
      | ((with_reducible refine (arm t.un 0 1099511627776 _).out.mono ?_); rintro eun wun ⟨rfl, rfl⟩; rw [Hun.out])
      | ((with_reducible refine (arm t.is 0 t.un _).out.mono ?_); rintro eis wis ⟨rfl, rfl⟩; rw [His.out])
      | ((with_reducible refine (arm t.ep 1 1048576 _).out.mono ?_); rintro eep wep ⟨rfl, rfl⟩; rw [Hep.out]))
    go_ret
    exact ⟨congrArg (fun b => Ending.returned (.bool b)) (HB2.out.trans (decide_eq_false (fun h => by have h1 := (HM.out.1 h).2.2.2.2.2; rw [Hep.out] at h1; cases h1))).symm, HB.out⟩
  have Hep : Hid (fr t.ep 1 1048576 = true) := hep
  clear hep
  go_enter Tryd.func12, Tryd.ntmps12
  go_wp2_with (go_at_call 33; first
      | ((with_reducible refine (arm t.tr 1 2147483648 _).out.mono ?_); rintro etr wtr ⟨rfl, rfl⟩; rw [Htr.out])
      | ((with_reducible refine (arm t.ac 1 2147483648 _).out.mono ?_); rintro eac wac ⟨rfl, rfl⟩; rw [Hac.out])
      | ((with_reducible refine (arm t.st 0 4095 _).out.mono ?_); rintro est wst ⟨rfl, rfl⟩; rw [Hst.out])
      | ((with_reducible refine (arm t.un 0 1099511627776 _).out.mono ?_); rintro eun wun ⟨rfl, rfl⟩; rw [Hun.out])
      | ((with_reducible refine (arm t.is 0 t.un _).out.mono ?_); rintro eis wis ⟨rfl, rfl⟩; rw [His.out])
      | ((with_reducible refine (arm t.ep 1 1048576 _).out.mono ?_); rintro eep wep ⟨rfl, rfl⟩; rw [Hep.out]))
  go_ret
  exact ⟨congrArg (fun b => Ending.returned (.bool b)) (HB2.out.trans (decide_eq_true (HM.out.2 ⟨Htr.out, Hac.out, Hst.out, Hun.out, His.out, Hep.out⟩))).symm, HB.out⟩

/-- Numbers' fields, one behind the other. -/
def nums : List Int → List Int
  | [] => []
  | k :: l => num k ++ nums l
theorem nums_snoc : ∀ (l : List Int) (k : Int), nums (l ++ [k]) = nums l ++ num k
  | [], k => by simp [nums]
  | x :: l, k => by simp only [nums, List.cons_append, nums_snoc l k, List.append_assoc]
theorem nums_len : ∀ (l : List Int), (∀ k ∈ l, k ≤ 9223372036854775807) → (nums l).length ≤ 10 * l.length
  | [], _ => by simp [nums]
  | k :: l, h => by
    have h1 := num_len (h k (by simp))
    have h2 := nums_len l (fun x hx => h x (by simp [hx]))
    simp only [nums, List.length_append, List.length_cons]
    omega
def T.list (t : T) : List Int := [t.tr, t.ac, t.st, t.is, t.un, t.ep]
theorem nums_list (t : T) : nums t.list = flds t := by simp [nums, T.list, flds]
theorem T.ok.le {t : T} (h : t.ok) : ∀ k ∈ t.list, k ≤ 9223372036854775807 := by
  intro k hk
  simp only [T.list, List.mem_cons, List.not_mem_nil, or_false] at hk
  rcases hk with rfl | rfl | rfl | rfl | rfl | rfl
  · exact h.tr.2
  · exact h.ac.2
  · exact h.st.2
  · exact h.is.2
  · exact h.un.2
  · exact h.ep.2

set_option maxHeartbeats 1600000 in
set_option maxRecDepth 100000 in
theorem fields_any (t : T) (ht : t.ok) (w : World) : Calls Tryd.prog 14 #[t.val] w (Makes (flds t) w) := by
  obtain ⟨w1, hw1⟩ : ∃ w1, w.alloc (.cells t.cells 26) = w1 := ⟨_, rfl⟩
  have hs1 : w1.heap.size = w.heap.size + 1 := by rw [← hw1]; simp
  have hb1 : Below w.heap.size w w1 := by rw [← hw1]; exact (Below.refl _ _).alloc (Nat.le_refl _) _
  obtain ⟨w2, hw2⟩ : ∃ w2, w1.alloc (.cells #[.slice none 0 0] 65) = w2 := ⟨_, rfl⟩
  have hw0 : Wr w2 w1.heap.size w1.heap.size (.slice none 0 0) 0 [] := by
    rw [← hw2]
    exact ⟨heap_alloc_new w1 _, World.ownsRow_nil _ _ _ _, by simp [Value.ownBlock], Nat.le_refl _⟩
  have hb2 : Below w1.heap.size w1 w2 := by rw [← hw2]; exact (Below.refl _ _).alloc (Nat.le_refl _) _
  have hT2 : w2.heap[w.heap.size]? = some (.cells t.cells 26 (0, 0)) := by
    rw [hb2.block w.heap.size (by omega), ← hw1]
    exact heap_alloc_new w _
  have HW0 := Lib.hid hw0
  have HB2 := Lib.hid (hb1.trans (hb2.mono (by omega)))
  have HLE := Lib.hid ht.le
  have HLN := Lib.hid (nums_len t.list ht.le)
  have HS1 := Lib.hid hs1
  have HW1 := Lib.hid hw1
  have HW2 := Lib.hid hw2
  unfold T.val
  have eC : t.cells = #[.int .i64 t.tr, .int .i64 t.ac, .int .i64 t.st, .int .i64 t.is, .int .i64 t.un, .int .i64 t.ep] := rfl
  rw [eC] at hw1 hT2 HW1 ⊢
  have k0 : w2.cell? ⟨w.heap.size, 0, none⟩ = some (.int .i64 t.tr) := cell_of_blk hT2 rfl
  have k1 : w2.cell? ⟨w.heap.size, 1, none⟩ = some (.int .i64 t.ac) := cell_of_blk hT2 rfl
  have k2 : w2.cell? ⟨w.heap.size, 2, none⟩ = some (.int .i64 t.st) := cell_of_blk hT2 rfl
  have k3 : w2.cell? ⟨w.heap.size, 3, none⟩ = some (.int .i64 t.is) := cell_of_blk hT2 rfl
  have k4 : w2.cell? ⟨w.heap.size, 4, none⟩ = some (.int .i64 t.un) := cell_of_blk hT2 rfl
  have k5 : w2.cell? ⟨w.heap.size, 5, none⟩ = some (.int .i64 t.ep) := cell_of_blk hT2 rfl
  rw [← hw2, ← hw1] at k0 k1 k2 k3 k4 k5
  clear hw0 hb1 hb2 hT2 eC hs1 hw1 hw2
  go_enter Tryd.func14, Tryd.ntmps14
  go_wp2_with fail
  rw [HW1.out, HW2.out]
  clear k0 k1 k2 k3 k4 k5
  rw [HS1.out] at HW0
  have ix0 : ∀ wx : World, (Instr.index 66 (.agg #[.int .i64 t.tr, .int .i64 t.ac, .int .i64 t.st, .int .i64 t.is, .int .i64 t.un, .int .i64 t.ep]) (.int .i64 0)).run Tryd.prog wx = .ok (.int .i64 t.tr) wx := fun _ => by kernel_rfl
  have ix1 : ∀ wx : World, (Instr.index 66 (.agg #[.int .i64 t.tr, .int .i64 t.ac, .int .i64 t.st, .int .i64 t.is, .int .i64 t.un, .int .i64 t.ep]) (.int .i64 1)).run Tryd.prog wx = .ok (.int .i64 t.ac) wx := fun _ => by kernel_rfl
  have ix2 : ∀ wx : World, (Instr.index 66 (.agg #[.int .i64 t.tr, .int .i64 t.ac, .int .i64 t.st, .int .i64 t.is, .int .i64 t.un, .int .i64 t.ep]) (.int .i64 2)).run Tryd.prog wx = .ok (.int .i64 t.st) wx := fun _ => by kernel_rfl
  have ix3 : ∀ wx : World, (Instr.index 66 (.agg #[.int .i64 t.tr, .int .i64 t.ac, .int .i64 t.st, .int .i64 t.is, .int .i64 t.un, .int .i64 t.ep]) (.int .i64 3)).run Tryd.prog wx = .ok (.int .i64 t.is) wx := fun _ => by kernel_rfl
  have ix4 : ∀ wx : World, (Instr.index 66 (.agg #[.int .i64 t.tr, .int .i64 t.ac, .int .i64 t.st, .int .i64 t.is, .int .i64 t.un, .int .i64 t.ep]) (.int .i64 4)).run Tryd.prog wx = .ok (.int .i64 t.un) wx := fun _ => by kernel_rfl
  have ix5 : ∀ wx : World, (Instr.index 66 (.agg #[.int .i64 t.tr, .int .i64 t.ac, .int .i64 t.st, .int .i64 t.is, .int .i64 t.un, .int .i64 t.ep]) (.int .i64 5)).run Tryd.prog wx = .ok (.int .i64 t.ep) wx := fun _ => by kernel_rfl
  have HSZ : Hid (w.heap.size + 1 ≤ w2.heap.size) := by have h1 := HW0.out.lt; unfold Hid; omega
  go_loopw [5, 19] (fun _ i wr => ∃ j : Nat, j ≤ 6 ∧ i = .int .i64 (j : Int) ∧ ∃ v, Hid (Wr wr (w.heap.size + 1) (w.heap.size + 1) v (nums (t.list.take j)).length (nums (t.list.take j))) ∧ Hid (Below (w.heap.size + 1) w2 wr)) (fun _ i _ => 6 - (intOf i).toNat)
  case atStart => exact ⟨0, by omega, rfl, _, HW0, Lib.hid (Below.refl _ _)⟩
  case round =>
    obtain ⟨j, hj, rfl, v, HW, HB⟩ := hrel
    have HBW : Hid (Below w.heap.size w wr) := HB2.out.trans (HB.out.mono (by omega))
    have hnl : (nums (t.list.take j)).length ≤ 100 := by
      have h1 := nums_len (t.list.take j) (fun k hk => HLE.out k (List.mem_of_mem_take hk))
      have h2 : (t.list.take j).length ≤ 6 := by rw [List.length_take]; exact Nat.min_le_right _ _
      omega
    by_cases hlt : j < 6
    · have hst : ∃ k, Hid (k = t.list.getD j 0) ∧ k ≤ 9223372036854775807 ∧ Hid (nums (t.list.take (j + 1)) = nums (t.list.take j) ++ num k) := by
        have hl : j < t.list.length := hlt
        refine ⟨_, rfl, ?_, ?_⟩
        · rw [List.getD, List.getElem?_eq_getElem hl]
          exact HLE.out _ (List.getElem_mem hl)
        · unfold Hid
          rw [List.take_succ_eq_append_getElem hl, nums_snoc, List.getD, List.getElem?_eq_getElem hl]
          rfl
      obtain ⟨k, HKE, hk, HNX⟩ := hst
      have HNM := Lib.hid (number_any (w.heap.size + 1) (w.heap.size + 1) _ v _ k wr HW.out hk (by omega))
      have HNL := Lib.hid hnl
      clear hnl
      obtain rfl | rfl | rfl | rfl | rfl | rfl : j = 0 ∨ j = 1 ∨ j = 2 ∨ j = 3 ∨ j = 4 ∨ j = 5 := by omega
      all_goals
        have hke := HKE.out
        simp only [T.list, List.getD_cons_zero, List.getD_cons_succ] at hke
        subst hke
        clear hj hlt hk HKE
        go_wp2_with fail
        refine HNM.out.mono ?_
        rintro e3 w3 ⟨rfl, v3, hw3, hm3⟩
        have HW3 := Lib.hid hw3
        have HB3 := Lib.hid (HB.out.trans (HW.out.below_of hm3))
        have HWF := HW3.out
        rw [← List.length_append, ← HNX.out] at HWF
        have HWG := Lib.hid HWF
        clear hw3 hm3 HWF HW3
        go_wp2
        go_roundw
        case rel => first | exact ⟨1, by omega, rfl, v3, HWG, HB3⟩ | exact ⟨2, by omega, rfl, v3, HWG, HB3⟩ | exact ⟨3, by omega, rfl, v3, HWG, HB3⟩ | exact ⟨4, by omega, rfl, v3, HWG, HB3⟩ | exact ⟨5, by omega, rfl, v3, HWG, HB3⟩ | exact ⟨6, by omega, rfl, v3, HWG, HB3⟩
        case measure => decide
    · obtain rfl : j = 6 := by omega
      have hWE : Hid (Wr wr (w.heap.size + 1) (w.heap.size + 1) v (flds t).length (flds t)) := by
        have h1 := HW.out
        rw [show t.list.take 6 = t.list from rfl, nums_list] at h1
        exact h1
      clear HW hlt hj hnl
      have HFL : Hid ((flds t).length ≤ 100) := by
        have h1 := HLN.out
        rw [nums_list] at h1
        have h2 : t.list.length = 6 := rfl
        unfold Hid
        omega
      go_wp2_with fail
      refine (out_any (w.heap.size + 1) (w.heap.size + 1) _ v _ wr hWE.out (by have := HFL.out; omega)).mono ?_
      rintro e4 w4 ⟨v4, rfl, hown4, hb4⟩
      have HO4 := Lib.hid (own_low hown4 HBW.out.size)
      have HB4 := Lib.hid (HBW.out.trans (hb4.mono HBW.out.size))
      clear hown4 hb4
      go_wp2
      go_ret
      exact ⟨_, rfl, HO4.out, HB4.out⟩
end Go.Proofs.YtmkdbpdfonpfdaaDoor.Tok
