/- Lemmas that the proof stands on, in build order: RgG RgTn. -/
import Derived.Test.YtppbpmmfcoblmaaDoorJ179ddfcd
import Derived.Test.YtppbpmmfcoblmaaDoorJ22758d9c
import Derived.Test.YtppbpmmfcoblmaaDoorJ314667de
import Derived.Test.YtppbpmmfcoblmaaDoorJ32e05d9c
import Derived.Test.YtppbpmmfcoblmaaDoorJ411788c9
/- Layer 9 (ring): the program's made and New, as contracts. -/
namespace Go.Proofs.YtppbpmmfcoblmaaDoor.Rg
open Go.RowKit Sha Hmc Slc

set_option maxHeartbeats 800000 in
set_option maxRecDepth 100000 in
theorem made_any (e : Int) (A : Option Addr) (n c : Nat) (d : List Int) (w : World) (h : Row .u8 w w.heap.size A n d) (hc : n ≤ c) (hn : n ≤ 100000) (hd : ∀ x ∈ d, 0 ≤ x ∧ x ≤ 255) (he : 0 ≤ e ∧ e ≤ 16777216) (hT : Lay w) :
    Calls Tryd.prog 46 #[.int .i64 e, .slice A n c] w fun x w' => ∃ A5 c5, x = .returned (.agg #[.int .i64 e, .slice A5 32 c5]) ∧ w'.ownsRow w.heap.size 5 1 (.slice A5 32 c5) 32 ((keyOf d e).map (Value.int .u8)) ∧ Below w.heap.size w w' := by
  obtain ⟨w1, hw1⟩ : ∃ w1, w.alloc (.cells #[.int .i64 0, .slice none 0 0] 57) = w1 := ⟨_, rfl⟩
  obtain ⟨w3, hw3⟩ : ∃ w3, (w1.alloc (.cells #[.int .u8 (e / 16777216), .int .u8 (e / 65536 % 256), .int .u8 (e / 256 % 256), .int .u8 (e % 256)] 5)).alloc (.cells #[.slice (some ⟨w.heap.size + 1, 0, none⟩) 4 4] 25) = w3 := ⟨_, rfl⟩
  have hs1 : w1.heap.size = w.heap.size + 1 := by rw [← hw1]; simp
  have hs3 : w3.heap.size = w.heap.size + 3 := by rw [← hw3]; simp [hs1]
  have hb1 : Below w.heap.size w w1 := by rw [← hw1]; exact (Below.refl _ _).alloc (Nat.le_refl _) _
  have hb3 : Below w.heap.size w w3 := by rw [← hw3]; exact (hb1.alloc (by omega) _).alloc (by simp; omega) _
  have hb13 : Below w1.heap.size w1 w3 := by rw [← hw3]; exact ((Below.refl _ _).alloc (Nat.le_refl _) _).alloc (by simp) _
  have hk : w3.heap[w.heap.size]? = some (.cells #[.int .i64 0, .slice none 0 0] 57 (0, 0)) := by
    rw [hb13.block w.heap.size (by omega), ← hw1]
    exact heap_alloc_new w _
  have h4 : w3.heap[w.heap.size + 1]? = some (.cells #[.int .u8 (e / 16777216), .int .u8 (e / 65536 % 256), .int .u8 (e / 256 % 256), .int .u8 (e % 256)] 5 (0, 0)) := by rw [← hw3, ← hs1]; exact heap_alloc2_old w1 _ _
  have h1 : w3.heap[w.heap.size + 1 + 1]? = some (.cells #[.slice (some ⟨w.heap.size + 1, 0, none⟩) 4 4] 25 (0, 0)) := by rw [← hw3, ← hs1]; exact heap_alloc2_new w1 _ _
  have hr4 : Row .u8 w3 w3.heap.size (some ⟨w.heap.size + 1, 0, none⟩) 4 (be4 e) := by
    refine ⟨rfl, fun _ => ⟨w.heap.size + 1, 0, rfl, by omega, fun j hj => ?_⟩⟩
    rw [Nat.zero_add]
    refine cell_of_blk h4 ?_
    match j, hj with
    | 0, _ => rfl
    | 1, _ => rfl
    | 2, _ => rfl
    | 3, _ => rfl
  have hp : Prs w3 w3.heap.size (some ⟨w.heap.size + 1 + 1, 0, none⟩) 1 [⟨some ⟨w.heap.size + 1, 0, none⟩, 4, 4, be4 e⟩] := Prs.of_blk (L := [⟨some ⟨w.heap.size + 1, 0, none⟩, 4, 4, be4 e⟩]) h1 (by omega) rfl (fun p hp => by
    obtain rfl := List.mem_singleton.1 hp
    exact ⟨hr4, fun h => by cases h⟩) (fun p hp => by
    obtain rfl := List.mem_singleton.1 hp
    exact ⟨Nat.le_refl _, be4_byt he⟩)
  have HB3 := Lib.hid hb3
  have HK := Lib.hid hk
  have HW1 := Lib.hid hw1
  have HW3 := Lib.hid hw3
  have HD := Lib.hid (derive_any A (some ⟨w.heap.size + 1 + 1, 0, none⟩) n c 1 1 d epoB _ w3 ((h.below hb3).more hb3.size) hc hd hp (fun h => by cases h) hn (by show 5 ≤ 100000; omega) (by omega) (by show 4 + 0 ≤ 100000; omega) (hT.below hb3 hT.tab.1))
  have hwh : whole [(⟨some ⟨w.heap.size + 1, 0, none⟩, 4, 4, be4 e⟩ : Part)] = be4 e := by simp [whole]
  rw [hwh, epoB_sby] at HD
  clear h hk hr4 hp h4 h1 hb3 hb13 hw1 hw3 hwh
  go_enter Tryd.func46, Tryd.ntmps46
  go_wp2_with fail
  rw [HW1.out, HW3.out]
  refine HD.out.mono ?_
  rintro e2 w2 ⟨v2, rfl, hown2, hb2⟩
  obtain ⟨A5, c5, rfl, hc5, hn5⟩ := own_slice hown2
  have hk2 := (hb2.block w.heap.size (Array.getElem?_eq_some_iff.1 HK.out).1).trans HK.out
  have p2 : w2.frozen? ⟨w.heap.size, 0, none⟩ = false := free_of_blk hk2
  have p3 : w2.frozen? ⟨w.heap.size, 1, none⟩ = false := free_of_blk hk2
  have p0 : w2.cell? ⟨w.heap.size, 0, none⟩ = some (.int .i64 0) := cell_of_blk hk2 rfl
  have p1 : w2.cell? ⟨w.heap.size, 1, none⟩ = some (.slice none 0 0) := cell_of_blk hk2 rfl
  have HK2 := Lib.hid hk2
  have HO2 := Lib.hid hown2
  have HB2 := Lib.hid (HB3.out.trans (hb2.mono HB3.out.size))
  clear hown2 hb2 hk2 hc5 hn5
  go_wp2_with fail
  have hsub : ((w2.setCell ⟨w.heap.size, 0, none⟩ (.int .i64 e)).setCell ⟨w.heap.size, 1, none⟩ (.slice A5 32 c5)).heap[w.heap.size]? = some (.cells #[.int .i64 e, .slice A5 32 c5] 57 (0, 0)) := set_blk (set_blk HK2.out)
  have hO1 : Only (fun k => k = w.heap.size) w2 ((w2.setCell ⟨w.heap.size, 0, none⟩ (.int .i64 e)).setCell ⟨w.heap.size, 1, none⟩ (.slice A5 32 c5)) := (Only.setCell w2 ⟨w.heap.size, 0, none⟩ _).trans (Only.setCell _ ⟨w.heap.size, 1, none⟩ _) (fun _ _ h => h)
  have hbf : Below w.heap.size w ((w2.setCell ⟨w.heap.size, 0, none⟩ (.int .i64 e)).setCell ⟨w.heap.size, 1, none⟩ (.slice A5 32 c5)) := (HB2.out.setCell (Nat.le_refl _) _).setCell (Nat.le_refl _) _
  generalize (w2.setCell ⟨w.heap.size, 0, none⟩ (.int .i64 e)).setCell ⟨w.heap.size, 1, none⟩ (.slice A5 32 c5) = wf at *
  refine bodyPost_ret (results_cell_row (g := w.heap.size) rfl _ _ _ _ _ _ rfl hsub Tryd.underlying57 rfl (by kernel_rfl)) rfl ⟨A5, c5, rfl, ?_, hbf⟩
  exact own_low (Only.own hO1 HO2.out (fun k hk e => by have h1 := (HO2.out.lt k hk).1; omega)) (by omega)

/-- What is stored into a ring's block reads so. -/
theorem ring_stored {w : World} {g : Nat} {x y : Value} (h : w.heap[g]? = some (.cells #[x, y] 24 (0, 0))) (u v : Value) :
    ((w.setCell ⟨g, 0, none⟩ u).setCell ⟨g, 1, none⟩ v).heap[g]? = some (.cells #[u, v] 24 (0, 0)) ∧ Only (fun k => k = g) w ((w.setCell ⟨g, 0, none⟩ u).setCell ⟨g, 1, none⟩ v) :=
  ⟨set_blk (set_blk h), (Only.setCell w ⟨g, 0, none⟩ _).trans (Only.setCell _ ⟨g, 1, none⟩ _) (fun _ _ h => h)⟩

set_option maxHeartbeats 1600000 in
set_option maxRecDepth 100000 in
theorem new_any (keep : Int) (A : Option Addr) (n c : Nat) (d : List Int) (w : World) (h : Row .u8 w w.heap.size A n d) (hc : n ≤ c) (hd : ∀ x ∈ d, 0 ≤ x ∧ x ≤ 255) (hT : Lay w) :
    Calls Tryd.prog 16 #[.int .i64 keep, .slice A n c] w (NewTo keep d w.heap.size w) := by
  have hl := h.len
  have hb1 : Below w.heap.size w (w.alloc (.cells #[.int .i64 0, .slice none 0 0] 24)) := (Below.refl _ _).alloc (Nat.le_refl _) _
  have hk1 : (w.alloc (.cells #[.int .i64 0, .slice none 0 0] 24)).heap[w.heap.size]? = some (.cells #[.int .i64 0, .slice none 0 0] 24 (0, 0)) := heap_alloc_new w _
  have HSA : Hid ((w.alloc (.cells #[.int .i64 0, .slice none 0 0] 24)).heap.size = w.heap.size + 1) := by unfold Hid; simp
  have HB1 := Lib.hid hb1
  have HK1 := Lib.hid hk1
  have p0 : (w.alloc (.cells #[.int .i64 0, .slice none 0 0] 24)).cell? ⟨w.heap.size, 0, none⟩ = some (.int .i64 0) := cell_of_blk hk1 rfl
  have p1 : (w.alloc (.cells #[.int .i64 0, .slice none 0 0] 24)).cell? ⟨w.heap.size, 1, none⟩ = some (.slice none 0 0) := cell_of_blk hk1 rfl
  have p2 : (w.alloc (.cells #[.int .i64 0, .slice none 0 0] 24)).frozen? ⟨w.heap.size, 0, none⟩ = false := free_of_blk hk1
  have p3 : (w.alloc (.cells #[.int .i64 0, .slice none 0 0] 24)).frozen? ⟨w.heap.size, 1, none⟩ = false := free_of_blk hk1
  by_cases g0 : keep < 1
  · have hd0 : decide (keep < 1) = true := decide_eq_true g0
    refine Calls.mono (R := fun x w' => NoRing w.heap.size w 2 x w') ?_ (fun x w' hx => ⟨fun _ => hx, fun hh => absurd hh.1.1 (by omega)⟩)
    clear h hb1 hk1
    go_enter Tryd.func16, Tryd.ntmps16
    go_wp2
    refine bodyPost_ret (results_cell_one rfl _ _ w.heap.size #[.int .i64 0, .slice none 0 0] rfl (run_loadVar_row _ _ 24 24 _ (0, 0) _ HK1.out Tryd.underlying24 rfl (by kernel_rfl))) rfl ?_
    exact ⟨_, _, _, rfl, HB1.out⟩
  have hd0 : decide (keep < 1) = false := decide_eq_false g0
  by_cases g1 : 16 < keep
  · have hd1 : decide (16 < keep) = true := decide_eq_true g1
    refine Calls.mono (R := fun x w' => NoRing w.heap.size w 2 x w') ?_ (fun x w' hx => ⟨fun _ => hx, fun hh => absurd hh.1.2 (by omega)⟩)
    clear h hb1 hk1
    go_enter Tryd.func16, Tryd.ntmps16
    go_wp2
    refine bodyPost_ret (results_cell_one rfl _ _ w.heap.size #[.int .i64 0, .slice none 0 0] rfl (run_loadVar_row _ _ 24 24 _ (0, 0) _ HK1.out Tryd.underlying24 rfl (by kernel_rfl))) rfl ?_
    exact ⟨_, _, _, rfl, HB1.out⟩
  have hd1 : decide (16 < keep) = false := decide_eq_false g1
  by_cases g2 : n = 32
  · subst g2
    refine Calls.mono (R := fun x w' => ARing w.heap.size w keep [(1, keyOf d 1)] x w') ?_ (fun x w' hx => ⟨fun hh => absurd ⟨⟨by omega, by omega⟩, hl⟩ hh, fun _ => hx⟩)
    have HM := Lib.hid (made_any 1 A 32 c d (w.alloc (.cells #[.int .i64 0, .slice none 0 0] 24)) ((h.below hb1).more hb1.size) hc (by omega) hd (by omega) (hT.below hb1 hT.tab.1))
    clear h hb1 hk1 p0 p1 p2 p3
    go_enter Tryd.func16, Tryd.ntmps16
    go_wp2_with fail
    refine HM.out.mono ?_
    rintro e2 w2 ⟨A5, c5, rfl, hown2, hb2⟩
    obtain ⟨A5', c5', he, hc5, hn5⟩ := own_slice hown2
    injection he with he1 he2 he3
    subst he1 he3
    have hb3 : Below w2.heap.size w2 (w2.alloc (.cells #[.int .i64 1, .slice A5 32 c5] 57)) := (Below.refl _ _).alloc (Nat.le_refl _) _
    have hk3 := (hb3.block w.heap.size (by have := hb2.size; have h2 := HSA.out; omega)).trans ((hb2.block w.heap.size (by simp)).trans HK1.out)
    have q0 : (w2.alloc (.cells #[.int .i64 1, .slice A5 32 c5] 57)).cell? ⟨w.heap.size, 0, none⟩ = some (.int .i64 0) := cell_of_blk hk3 rfl
    have q1 : (w2.alloc (.cells #[.int .i64 1, .slice A5 32 c5] 57)).cell? ⟨w.heap.size, 1, none⟩ = some (.slice none 0 0) := cell_of_blk hk3 rfl
    have q2 : (w2.alloc (.cells #[.int .i64 1, .slice A5 32 c5] 57)).frozen? ⟨w.heap.size, 0, none⟩ = false := free_of_blk hk3
    have q3 : (w2.alloc (.cells #[.int .i64 1, .slice A5 32 c5] 57)).frozen? ⟨w.heap.size, 1, none⟩ = false := free_of_blk hk3
    have HST := Lib.hid (ring_stored hk3 (.int .i64 keep) (.slice (some ⟨w2.heap.size, 0, none⟩) 1 1))
    have hbw : Below w.heap.size w (w2.alloc (.cells #[.int .i64 1, .slice A5 32 c5] 57)) := (HB1.out.trans (hb2.mono HB1.out.size)).trans (hb3.mono (by have h1 := HB1.out.size; have h2 := hb2.size; omega))
    have hrow : KRow (w2.alloc (.cells #[.int .i64 1, .slice A5 32 c5] 57)) (w2.heap.size + 1) (some ⟨w2.heap.size, 0, none⟩) 1 [⟨1, ⟨A5, 32, c5, keyOf d 1⟩⟩] := KRow.of_blk (K := [⟨1, ⟨A5, 32, c5, keyOf d 1⟩⟩]) (heap_alloc_new w2 _) (by omega) rfl (fun k hk => by
      obtain rfl := List.mem_singleton.1 hk
      exact ⟨⟨((Row.of_own hown2).below hb3).more (by omega), hn5⟩, hc5, keyOf_byt d 1, by simp only; omega, by simp only; omega⟩)
    have hlt : w.heap.size < w2.heap.size := by have := hb2.size; have h2 := HSA.out; omega
    have hfr : Fresh w.heap.size (some ⟨w2.heap.size, 0, none⟩) [⟨1, ⟨A5, 32, c5, keyOf d 1⟩⟩] := ⟨fun b o e => by injection e with e; injection e with e1 e2; omega, fun k hk b o e => by
      obtain rfl := List.mem_singleton.1 hk
      have := own_addr hown2 b o e
      have h2 := HSA.out
      omega⟩
    have hni : NotIn w.heap.size 1 (some ⟨w2.heap.size, 0, none⟩) [⟨1, ⟨A5, 32, c5, keyOf d 1⟩⟩] := ⟨fun _ o e => by injection e with e; injection e with e1 e2; omega, fun k hk _ o e => by
      obtain rfl := List.mem_singleton.1 hk
      have := own_addr hown2 _ o e
      have h2 := HSA.out
      omega⟩
    have HR := Lib.hid hrow
    have HF := Lib.hid hfr
    have HI := Lib.hid hni
    have HBW := Lib.hid hbw
    have HSZ : Hid ((w2.alloc (.cells #[.int .i64 1, .slice A5 32 c5] 57)).heap.size = w2.heap.size + 1) := by unfold Hid; simp
    clear hown2 hb2 hb3 hk3 hrow hfr hni hlt hbw hc5 hn5
    go_wp2
    refine bodyPost_ret (results_cell_one rfl _ _ w.heap.size #[.int .i64 keep, .slice (some ⟨w2.heap.size, 0, none⟩) 1 1] rfl (run_loadVar_row _ _ 24 24 _ (0, 0) _ HST.out.1 Tryd.underlying24 rfl (by kernel_rfl))) rfl ?_
    exact ⟨_, _, _, _, rfl, (HR.out.set HI.out HST.out.2 (by rw [HSZ.out]; exact Nat.le_refl _)).more (by rw [← HSZ.out]; exact HST.out.2.size), rfl, HF.out, (fun h => by cases h), Nat.le_refl _, HST.out.2 |> fun ho => HBW.out.trans (ho.below (by have := HBW.out.size; omega) (fun k hk => Nat.le_of_eq hk.symm))⟩
  · have hd2 : decide ((n : Int) = 32) = false := by simp; omega
    refine Calls.mono (R := fun x w' => NoRing w.heap.size w 2 x w') ?_ (fun x w' hx => ⟨fun _ => hx, fun hh => absurd hh.2 (by omega)⟩)
    clear h hb1 hk1
    go_enter Tryd.func16, Tryd.ntmps16
    go_wp2
    refine bodyPost_ret (results_cell_one rfl _ _ w.heap.size #[.int .i64 0, .slice none 0 0] rfl (run_loadVar_row _ _ 24 24 _ (0, 0) _ HK1.out Tryd.underlying24 rfl (by kernel_rfl))) rfl ?_
    exact ⟨_, _, _, rfl, HB1.out⟩
end Go.Proofs.YtppbpmmfcoblmaaDoor.Rg

/- Layer 9 (ring): the program's Right, Now, Find and New do what is asked of them. -/
namespace Go.Proofs.YtppbpmmfcoblmaaDoor.Rg
open Go.RowKit Sha Slc

theorem right_ok : RightOk := fun keep A n c K w h _ _ hs _ => right_any keep A n c w.heap.size K w h (Nat.le_refl _) (by have := hs.1; omega)
theorem now_ok : NowOk := fun keep A n c K w h _ _ hs _ => now_any keep A n c w.heap.size K w h (Nat.le_refl _) (by have := hs.1; omega)
theorem find_ok : FindOk := fun keep e A n c K w h _ _ hs _ _ => find_any keep e A n c w.heap.size K w h (Nat.le_refl _) (by have := hs.1; omega) hs.2
theorem new_ok : NewOk := fun keep A n c d w h _ hc _ hd _ hT => new_any keep A n c d w h hc hd hT
end Go.Proofs.YtppbpmmfcoblmaaDoor.Rg
