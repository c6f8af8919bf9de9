/- Lemmas that the proof stands on, in build order: ChV ChH TokB. -/
import Derived.Deep.RegionHeld3
import Derived.RegionTactic
import Derived.Test.YtppbpmmfcoblmaaDoorJ364097e7
import Derived.Test.YtppbpmmfcoblmaaDoorJ391258ec
/- Layer 11 (challenge): the walk of the law on checks. -/
namespace Go.Proofs.YtppbpmmfcoblmaaDoor.Chl
open Go.RowKit Slc Var Fld Frm Sha Hmc Rg Tok

/-- Behind the law's boxes: the ring's block, the slices', the numbers'. -/
structure Ex (w0 : World) (cr cl cn : Array Value) (w' : World) : Prop where
  ring : w'.heap[w0.heap.size]? = some (.cells cr 24 (0, 0))
  lst : w'.heap[w0.heap.size + 1]? = some (.cells cl 26 (0, 0))
  nums : w'.heap[w0.heap.size + 1 + 1]? = some (.cells cn 39 (0, 0))
  bel : Below w0.heap.size w0 w'
section
variable {w0 w1 w2 : World} {cr cl cn : Array Value}
theorem Ex.lt (h : Ex w0 cr cl cn w1) : w0.heap.size + 1 + 1 < w1.heap.size := (Array.getElem?_eq_some_iff.1 h.nums).1
theorem Ex.below (h : Ex w0 cr cl cn w1) (hb : Below w1.heap.size w1 w2) : Ex w0 cr cl cn w2 :=
  have hl := h.lt
  ⟨(hb.block _ (by omega)).trans h.ring, (hb.block _ (by omega)).trans h.lst, (hb.block _ hl).trans h.nums, h.bel.trans (hb.mono h.bel.size)⟩
theorem Ex.new : Ex w0 cr cl cn (((w0.alloc (.cells cr 24)).alloc (.cells cl 26)).alloc (.cells cn 39)) := by
  have ha : Ax w0 cr cl ((w0.alloc (.cells cr 24)).alloc (.cells cl 26)) := Ax.new
  have hs : ((w0.alloc (.cells cr 24)).alloc (.cells cl 26)).heap.size = w0.heap.size + 1 + 1 := by simp
  generalize (w0.alloc (.cells cr 24)).alloc (.cells cl 26) = y at *
  have hb : Below y.heap.size y (y.alloc (.cells cn 39)) := below_new
  have hn : (y.alloc (.cells cn 39)).heap[y.heap.size]? = some (.cells cn 39 (0, 0)) := heap_alloc_new y _
  have h2 := ha.below hb
  rw [hs] at hn
  exact ⟨h2.ring, h2.lst, hn, h2.bel⟩
end

set_option maxHeartbeats 3200000 in
set_option maxRecDepth 100000 in
theorem checks_walk (keep nw sl : Int) (A : Option Addr) (n c : Nat) (K : List Kp) (p q r : Part) (w : World) (h : KRow w w.heap.size A n K) (hm : n ≤ maxLen) (hp : Came w p) (hq : Came w q) (hr : Came w r) (hT : Lay w) :
    Calls Tryd.prog 4 #[.agg #[.int .i64 keep, .slice A n c], .agg #[p.v, q.v, r.v], .agg #[.int .i64 nw, .int .i64 sl]] w fun x w' => x = .returned (.bool true) ∧ Below w.heap.size w w' := by
  have H := Lib.hid h
  have HM := Lib.hid hm
  have HT := Lib.hid hT
  have HP := Lib.hid hp
  have HQ := Lib.hid hq
  have HR := Lib.hid hr
  unfold Part.v
  have hx : Ex w #[.int .i64 keep, .slice A n c] #[.slice p.A p.n p.c, .slice q.A q.n q.c, .slice r.A r.n r.c] #[.int .i64 nw, .int .i64 sl] (((w.alloc (.cells #[.int .i64 keep, .slice A n c] 24)).alloc (.cells #[.slice p.A p.n p.c, .slice q.A q.n q.c, .slice r.A r.n r.c] 26)).alloc (.cells #[.int .i64 nw, .int .i64 sl] 39)) := Ex.new
  have HX := Lib.hid hx
  clear h hm hT hp hq hr hx
  go_enter Tryd.func4, Tryd.ntmps4
  go_wp2_with fail
  refine (awake_any _ (HT.out.below HX.out.bel HT.out.tab.1)).mono ?_
  rintro e1 w1 ⟨rfl, hb1⟩
  have HX1 := Lib.hid (HX.out.below hb1)
  have HPRS := Lib.hid (prs_three HP.out HQ.out HR.out HX1.out.bel)
  have HX2 : Hid (Ex w #[.int .i64 keep, .slice A n c] #[.slice p.A p.n p.c, .slice q.A q.n q.c, .slice r.A r.n r.c] #[.int .i64 nw, .int .i64 sl] (w1.alloc (.cells #[.slice p.A p.n p.c, .slice q.A q.n q.c, .slice r.A r.n r.c] 25))) := HX1.out.below below_new
  have g0 : w1.cell? ⟨w.heap.size, 0, none⟩ = some (.int .i64 keep) := cell_of_blk HX1.out.ring rfl
  have g1 : w1.cell? ⟨w.heap.size, 1, none⟩ = some (.slice A n c) := cell_of_blk HX1.out.ring rfl
  have l0 : w1.cell? ⟨w.heap.size + 1, 0, none⟩ = some (.slice p.A p.n p.c) := cell_of_blk HX1.out.lst rfl
  have l1 : w1.cell? ⟨w.heap.size + 1, 1, none⟩ = some (.slice q.A q.n q.c) := cell_of_blk HX1.out.lst rfl
  have l2 : w1.cell? ⟨w.heap.size + 1, 2, none⟩ = some (.slice r.A r.n r.c) := cell_of_blk HX1.out.lst rfl
  have m0 : w1.cell? ⟨w.heap.size + 1 + 1, 0, none⟩ = some (.int .i64 nw) := cell_of_blk HX1.out.nums rfl
  have m1 : w1.cell? ⟨w.heap.size + 1 + 1, 1, none⟩ = some (.int .i64 sl) := cell_of_blk HX1.out.nums rfl
  clear hb1 HX
  go_wp2_with fail
  refine (few_any keep A (some ⟨w1.heap.size, 0, none⟩) n c 3 3 w.heap.size K [p, q, r] (w1.alloc (.cells #[.slice p.A p.n p.c, .slice q.A q.n q.c, .slice r.A r.n r.c] 25)) (H.out.below HX2.out.bel) HX2.out.bel.size HM.out HPRS.out (by omega)).mono ?_
  rintro e3 w3 ⟨⟨bb, rfl, hfew⟩, hb3⟩
  have HX3 := Lib.hid (HX2.out.below hb3)
  clear hb3 HX2 HX1 HPRS g0 g1 l0 l1 l2 m0 m1
  cases bb with
  | false =>
    go_wp2
    go_ret
    exact ⟨rfl, HX3.out.bel⟩
  | true =>
    obtain ⟨hn30, hk100, hl500⟩ := hfew rfl
    have HSM : Hid (Small n K) := ⟨by omega, fun k hk => by have := hk100 k hk; omega⟩
    have HK100 := Lib.hid hk100
    have hpn : p.n ≤ 500 := hl500 p (by simp)
    have hqn : q.n ≤ 500 := hl500 q (by simp)
    have hrn : r.n ≤ 500 := hl500 r (by simp)
    have HCHK := fun wx (hx : Ex w #[.int .i64 keep, .slice A n c] #[.slice p.A p.n p.c, .slice q.A q.n q.c, .slice r.A r.n r.c] #[.int .i64 nw, .int .i64 sl] wx) => Lib.hid (check_any keep nw sl A p.A q.A r.A n c p.n p.c q.n q.c r.n r.c K p.xs q.xs r.xs wx ((H.out.below hx.bel).more hx.bel.size) HSM.out (HP.out.at hx.bel) HP.out.nil HP.out.byt (by omega) HP.out.fit HP.out.max (HQ.out.at hx.bel) HQ.out.nil HQ.out.byt (by omega) HQ.out.fit (HR.out.at hx.bel) HR.out.nil HR.out.byt (by omega) HR.out.fit HR.out.max (HT.out.below hx.bel HT.out.tab.1))
    have HREF := fun wx (hx : Ex w #[.int .i64 keep, .slice A n c] #[.slice p.A p.n p.c, .slice q.A q.n q.c, .slice r.A r.n r.c] #[.int .i64 nw, .int .i64 sl] wx) => Lib.hid (refcheck_any keep nw sl A p.A q.A r.A n c p.n p.c q.n q.c r.n r.c K p.xs q.xs r.xs wx ((H.out.below hx.bel).more hx.bel.size) (by omega) HK100.out (HP.out.at hx.bel) HP.out.nil HP.out.byt (by omega) HP.out.fit HP.out.max (HQ.out.at hx.bel) HQ.out.nil HQ.out.byt (by omega) (HR.out.at hx.bel) HR.out.byt (by omega) HR.out.fit HR.out.max)
    generalize check (ls K) p.xs q.xs r.xs nw sl = v at *
    obtain ⟨⟨v0, v1, v2, v3, v4, v5⟩, ve⟩ := v
    have he : ((ve : Int) == (ve : Int)) = true := beq_self_eq_true _
    clear hfew hk100 hl500
    have g0 : w3.cell? ⟨w.heap.size, 0, none⟩ = some (.int .i64 keep) := cell_of_blk HX3.out.ring rfl
    have g1 : w3.cell? ⟨w.heap.size, 1, none⟩ = some (.slice A n c) := cell_of_blk HX3.out.ring rfl
    have l0 : w3.cell? ⟨w.heap.size + 1, 0, none⟩ = some (.slice p.A p.n p.c) := cell_of_blk HX3.out.lst rfl
    have l1 : w3.cell? ⟨w.heap.size + 1, 1, none⟩ = some (.slice q.A q.n q.c) := cell_of_blk HX3.out.lst rfl
    have l2 : w3.cell? ⟨w.heap.size + 1, 2, none⟩ = some (.slice r.A r.n r.c) := cell_of_blk HX3.out.lst rfl
    have m0 : w3.cell? ⟨w.heap.size + 1 + 1, 0, none⟩ = some (.int .i64 nw) := cell_of_blk HX3.out.nums rfl
    have m1 : w3.cell? ⟨w.heap.size + 1 + 1, 1, none⟩ = some (.int .i64 sl) := cell_of_blk HX3.out.nums rfl
    have HC3 := HCHK w3 HX3.out
    go_wp2_with fail
    refine HC3.out.mono ?_
    rintro e4 w4 ⟨rfl, hb4⟩
    have HX4 := Lib.hid (HX3.out.below hb4)
    clear hb4 g0 g1 l0 l1 l2 m0 m1 HC3 HX3 HCHK
    unfold T.val T.cells
    simp only
    obtain ⟨w5, hw5⟩ : ∃ w5, w4.alloc (.cells #[.int .i64 v0, .int .i64 v1, .int .i64 v2, .int .i64 v3, .int .i64 v4, .int .i64 v5] 41) = w5 := ⟨_, rfl⟩
    have hb5 : Below w4.heap.size w4 w5 := by rw [← hw5]; exact below_new
    have HT5 : Hid (w5.heap[w4.heap.size]? = some (.cells #[.int .i64 v0, .int .i64 v1, .int .i64 v2, .int .i64 v3, .int .i64 v4, .int .i64 v5] 41 (0, 0))) := by unfold Hid; rw [← hw5]; exact heap_alloc_new w4 _
    have HX5 := Lib.hid (HX4.out.below hb5)
    have g0 : w5.cell? ⟨w.heap.size, 0, none⟩ = some (.int .i64 keep) := cell_of_blk HX5.out.ring rfl
    have g1 : w5.cell? ⟨w.heap.size, 1, none⟩ = some (.slice A n c) := cell_of_blk HX5.out.ring rfl
    have l0 : w5.cell? ⟨w.heap.size + 1, 0, none⟩ = some (.slice p.A p.n p.c) := cell_of_blk HX5.out.lst rfl
    have l1 : w5.cell? ⟨w.heap.size + 1, 1, none⟩ = some (.slice q.A q.n q.c) := cell_of_blk HX5.out.lst rfl
    have l2 : w5.cell? ⟨w.heap.size + 1, 2, none⟩ = some (.slice r.A r.n r.c) := cell_of_blk HX5.out.lst rfl
    have m0 : w5.cell? ⟨w.heap.size + 1 + 1, 0, none⟩ = some (.int .i64 nw) := cell_of_blk HX5.out.nums rfl
    have m1 : w5.cell? ⟨w.heap.size + 1 + 1, 1, none⟩ = some (.int .i64 sl) := cell_of_blk HX5.out.nums rfl
    have HC5 := HREF w5 HX5.out
    have HW5 := Lib.hid hw5
    rw [← hw5] at g0 g1 l0 l1 l2 m0 m1
    clear hw5 hb5 HREF
    go_wp2_with fail
    rw [HW5.out]
    refine HC5.out.mono ?_
    rintro e6 w6 ⟨rfl, hb6⟩
    have HX6 := Lib.hid (HX5.out.below hb6)
    have HT6 : Hid (w6.heap[w4.heap.size]? = some (.cells #[.int .i64 v0, .int .i64 v1, .int .i64 v2, .int .i64 v3, .int .i64 v4, .int .i64 v5] 41 (0, 0))) := (hb6.block _ (Array.getElem?_eq_some_iff.1 HT5.out).1).trans HT5.out
    clear hb6 g0 g1 l0 l1 l2 m0 m1 HC5 HX5 HT5 HW5 HX4
    generalize w4.heap.size = G4 at *
    unfold T.val T.cells
    simp only
    have hb7 : Below w6.heap.size w6 (w6.alloc (.cells #[.int .i64 v0, .int .i64 v1, .int .i64 v2, .int .i64 v3, .int .i64 v4, .int .i64 v5] 41)) := below_new
    have HX7 := Lib.hid (HX6.out.below hb7)
    have HT7 : Hid ((w6.alloc (.cells #[.int .i64 v0, .int .i64 v1, .int .i64 v2, .int .i64 v3, .int .i64 v4, .int .i64 v5] 41)).heap[G4]? = some (.cells #[.int .i64 v0, .int .i64 v1, .int .i64 v2, .int .i64 v3, .int .i64 v4, .int .i64 v5] 41 (0, 0))) := (hb7.block _ (Array.getElem?_eq_some_iff.1 HT6.out).1).trans HT6.out
    have HU7 : Hid ((w6.alloc (.cells #[.int .i64 v0, .int .i64 v1, .int .i64 v2, .int .i64 v3, .int .i64 v4, .int .i64 v5] 41)).heap[w6.heap.size]? = some (.cells #[.int .i64 v0, .int .i64 v1, .int .i64 v2, .int .i64 v3, .int .i64 v4, .int .i64 v5] 41 (0, 0))) := heap_alloc_new w6 _
    have a0 : (w6.alloc (.cells #[.int .i64 v0, .int .i64 v1, .int .i64 v2, .int .i64 v3, .int .i64 v4, .int .i64 v5] 41)).cell? ⟨G4, 0, none⟩ = some (.int .i64 v0) := cell_of_blk HT7.out rfl
    have a1 : (w6.alloc (.cells #[.int .i64 v0, .int .i64 v1, .int .i64 v2, .int .i64 v3, .int .i64 v4, .int .i64 v5] 41)).cell? ⟨G4, 1, none⟩ = some (.int .i64 v1) := cell_of_blk HT7.out rfl
    have a2 : (w6.alloc (.cells #[.int .i64 v0, .int .i64 v1, .int .i64 v2, .int .i64 v3, .int .i64 v4, .int .i64 v5] 41)).cell? ⟨G4, 2, none⟩ = some (.int .i64 v2) := cell_of_blk HT7.out rfl
    have a3 : (w6.alloc (.cells #[.int .i64 v0, .int .i64 v1, .int .i64 v2, .int .i64 v3, .int .i64 v4, .int .i64 v5] 41)).cell? ⟨G4, 3, none⟩ = some (.int .i64 v3) := cell_of_blk HT7.out rfl
    have a4 : (w6.alloc (.cells #[.int .i64 v0, .int .i64 v1, .int .i64 v2, .int .i64 v3, .int .i64 v4, .int .i64 v5] 41)).cell? ⟨G4, 4, none⟩ = some (.int .i64 v4) := cell_of_blk HT7.out rfl
    have a5 : (w6.alloc (.cells #[.int .i64 v0, .int .i64 v1, .int .i64 v2, .int .i64 v3, .int .i64 v4, .int .i64 v5] 41)).cell? ⟨G4, 5, none⟩ = some (.int .i64 v5) := cell_of_blk HT7.out rfl
    have b0 : (w6.alloc (.cells #[.int .i64 v0, .int .i64 v1, .int .i64 v2, .int .i64 v3, .int .i64 v4, .int .i64 v5] 41)).cell? ⟨w6.heap.size, 0, none⟩ = some (.int .i64 v0) := cell_of_blk HU7.out rfl
    have b1 : (w6.alloc (.cells #[.int .i64 v0, .int .i64 v1, .int .i64 v2, .int .i64 v3, .int .i64 v4, .int .i64 v5] 41)).cell? ⟨w6.heap.size, 1, none⟩ = some (.int .i64 v1) := cell_of_blk HU7.out rfl
    have b2 : (w6.alloc (.cells #[.int .i64 v0, .int .i64 v1, .int .i64 v2, .int .i64 v3, .int .i64 v4, .int .i64 v5] 41)).cell? ⟨w6.heap.size, 2, none⟩ = some (.int .i64 v2) := cell_of_blk HU7.out rfl
    have b3 : (w6.alloc (.cells #[.int .i64 v0, .int .i64 v1, .int .i64 v2, .int .i64 v3, .int .i64 v4, .int .i64 v5] 41)).cell? ⟨w6.heap.size, 3, none⟩ = some (.int .i64 v3) := cell_of_blk HU7.out rfl
    have b4 : (w6.alloc (.cells #[.int .i64 v0, .int .i64 v1, .int .i64 v2, .int .i64 v3, .int .i64 v4, .int .i64 v5] 41)).cell? ⟨w6.heap.size, 4, none⟩ = some (.int .i64 v4) := cell_of_blk HU7.out rfl
    have b5 : (w6.alloc (.cells #[.int .i64 v0, .int .i64 v1, .int .i64 v2, .int .i64 v3, .int .i64 v4, .int .i64 v5] 41)).cell? ⟨w6.heap.size, 5, none⟩ = some (.int .i64 v5) := cell_of_blk HU7.out rfl
    clear hb7 HX6 HT6
    go_wp2
    go_ret
    exact ⟨rfl, HX7.out.bel⟩
end Go.Proofs.YtppbpmmfcoblmaaDoor.Chl

/- Layer 11 (challenge): the law's clash, where two tags are one. -/
namespace Go.Proofs.YtppbpmmfcoblmaaDoor.Chl
open Go.RowKit Slc Var Fld Frm Sha Hmc Rg Tok

theorem below_eq {w w' : World} {q : Nat} (h : w' = w.drewN q) : Below w.heap.size w w' := by
  rw [h]
  exact Rg.below_drewN (Below.refl _ _)

set_option maxHeartbeats 1600000 in
set_option maxRecDepth 100000 in
theorem clash_any (A pA qA : Option Addr) (n c pn pc qn qc : Nat) (k px qx : List Int) (t : Int) (w : World) (h : Row .u8 w w.heap.size A n k) (hnil : A = none → c = 0) (hn : n ≤ 1000) (hk : ∀ x ∈ k, 0 ≤ x ∧ x ≤ 255)
    (hp : Row .u8 w w.heap.size pA pn px) (hpn : pA = none → pc = 0) (hpl : pn ≤ 1000) (hpb : ∀ x ∈ px, 0 ≤ x ∧ x ≤ 255) (hq : Row .u8 w w.heap.size qA qn qx) (hqn : qA = none → qc = 0) (hql : qn ≤ 1000) (hqb : ∀ x ∈ qx, 0 ≤ x ∧ x ≤ 255) (ht : t ≤ 9223372036854775807) (he : ansT k px t = ansT k qx t) :
    Calls Tryd.prog 18 #[.slice A n c, .agg #[.slice pA pn pc, .slice qA qn qc], .int .i64 t] w fun x w' => x = .returned (.bool true) ∧ Below w.heap.size w w' := by
  obtain ⟨w1, hw1⟩ : ∃ w1, w.alloc (.cells #[.slice pA pn pc, .slice qA qn qc] 47) = w1 := ⟨_, rfl⟩
  have hb1 : Below w.heap.size w w1 := by rw [← hw1]; exact below_new
  have hL1 : w1.heap[w.heap.size]? = some (.cells #[.slice pA pn pc, .slice qA qn qc] 47 (0, 0)) := by rw [← hw1]; exact heap_alloc_new w _
  have HB1 : Hid (Below w.heap.size w w1.drew) := hb1.drew
  have HL1 : Hid (w1.drew.heap[w.heap.size]? = some (.cells #[.slice pA pn pc, .slice qA qn qc] 47 (0, 0))) := hL1
  have H := Lib.hid h
  have HN := Lib.hid hnil
  have HK := Lib.hid hk
  have HQ := Lib.hid hq
  have HQN := Lib.hid hqn
  have HQB := Lib.hid hqb
  have HT := Lib.hid ht
  have HE := Lib.hid he
  have HLT : Hid (w.heap.size < w1.drew.heap.size) := (Array.getElem?_eq_some_iff.1 HL1.out).1
  have KEEP : Hid (∀ wx : World, wx.heap[w.heap.size]? = some (.cells #[.slice pA pn pc, .slice qA qn qc] 47 (0, 0)) → wx.cell? ⟨w.heap.size, 0, none⟩ = some (.slice pA pn pc) ∧ wx.cell? ⟨w.heap.size, 1, none⟩ = some (.slice qA qn qc)) := fun wx hx => ⟨cell_of_blk hx rfl, cell_of_blk hx rfl⟩
  have aS := KEEP.out _ HL1.out
  have HT1 := Lib.hid (reftag_any A pA n c pn pc k px t w1.drew ((h.below HB1.out).more HB1.out.size) ((hp.below HB1.out).more HB1.out.size) hnil hpn (by omega) (by omega) ht hk hpb (by omega))
  have HW1 := Lib.hid hw1
  clear h hnil hk hp hpn hpb hq hqn hqb ht he hb1 hL1 hw1
  go_enter Tryd.func18, Tryd.ntmps18
  go_wp2_with fail
  rw [HW1.out]
  go_region_held3 (fun wx => wx.cell? ⟨w.heap.size, 0, none⟩ = some (.slice pA pn pc) ∧ wx.cell? ⟨w.heap.size, 1, none⟩ = some (.slice qA qn qc)) (first | (with_reducible exact aS) | (with_reducible exact a2) | (with_reducible exact a3) | (with_reducible exact a4) | (with_reducible exact a5)) (first
    | (go_at_call 35; (with_reducible refine HT2.out.mono ?_); go_loud (rintro x3 w3 ⟨v3, rfl, hown3, hb3⟩; obtain ⟨A3, c3, rfl, -, -⟩ := own_slice hown3; have HR3 : Hid (Row .u8 w3 w3.heap.size A3 32 (ansT k qx t)) := Row.of_own hown3; have HR23 := Lib.hid ((HR2.out.below hb3).more hb3.size); have HB3 := Lib.hid (HB2.out.trans (hb3.mono HB2.out.size)); have HL3 := Lib.hid ((hb3.block _ (Array.getElem?_eq_some_iff.1 HL2.out).1).trans HL2.out); have a3 := KEEP.out w3 HL3.out; have HS := Lib.hid (same_any A2 A3 32 c2 32 c3 _ _ (ansT k px t) (ansT k qx t) w3 (by omega) (by omega) HR23.out HR3.out); clear hown3 hb3 HT2))
    | (go_at_call 35; (with_reducible refine HT1.out.mono ?_); go_loud (rintro x2 w2 ⟨v2, rfl, hown2, hb2⟩; obtain ⟨A2, c2, rfl, -, -⟩ := own_slice hown2; have HR2 : Hid (Row .u8 w2 w2.heap.size A2 32 (ansT k px t)) := Row.of_own hown2; have HB2 := Lib.hid (HB1.out.trans (hb2.mono HB1.out.size)); have HL2 := Lib.hid ((hb2.block _ HLT.out).trans HL1.out); have a2 := KEEP.out w2 HL2.out; have HT2 := Lib.hid (reftag_any A qA n c qn qc k qx t w2 ((H.out.below HB2.out).more HB2.out.size) ((HQ.out.below HB2.out).more HB2.out.size) HN.out HQN.out (by omega) (by omega) HT.out HK.out HQB.out (by omega)); clear hown2 hb2))
    | (go_at_call 10; (with_reducible refine HS.out.mono ?_); go_loud (rintro x4 w4 ⟨hx4, q4, hq4⟩; have hd4 := decide_eq_true HE.out; obtain rfl : x4 = .returned (.bool true) := hx4.trans (congrArg (fun b => Ending.returned (Value.bool b)) hd4); clear hd4; have hb4 := below_eq hq4; have HB4 := Lib.hid (HB3.out.trans (hb4.mono HB3.out.size)); have HL4 := Lib.hid ((hb4.block _ (Array.getElem?_eq_some_iff.1 HL3.out).1).trans HL3.out); have a4 := KEEP.out w4 HL4.out; have HBK := Lib.hid (refblock_any A n c k 0 w4 ((H.out.below HB4.out).more HB4.out.size) HN.out (by omega) HK.out (by omega)); clear hx4 hq4 hb4))
    | (go_at_call 53; (with_reducible refine HBK.out.mono ?_); go_loud (rintro x5 w5 ⟨v5, rfl, hown5, hb5⟩; obtain ⟨A5, c5, rfl, -, -⟩ := own_slice hown5; have HB5 := Lib.hid (HB4.out.trans (hb5.mono HB4.out.size)); have HL5 := Lib.hid ((hb5.block _ (Array.getElem?_eq_some_iff.1 HL4.out).1).trans HL4.out); have a5 := KEEP.out w5 HL5.out; clear hown5 hb5)))
  go_wp2
  go_ret
  exact ⟨rfl, HB5.out⟩
end Go.Proofs.YtppbpmmfcoblmaaDoor.Chl

/- Layer 10 (token): there and back, behind rotations: the mathematics. -/
namespace Go.Proofs.YtppbpmmfcoblmaaDoor.Tok
open Go.RowKit Slc Var Fld Frm Sha Hmc Rg

theorem fnd_some {E : List Kl} {e : Int} {k : List Int} (h : fnd E e = some k) : ∃ (j : Nat) (q : Kl), E[j]? = some q ∧ q.1 = e ∧ q.2 = k := by
  unfold fnd at h
  cases hf : E.find? (fun q => q.1 == e) with
  | none => rw [hf] at h; cases h
  | some q =>
    rw [hf] at h
    obtain ⟨j, hj⟩ := List.getElem?_of_mem (List.mem_of_find?_eq_some hf)
    have h1 : q.1 = e := by simpa using List.find?_some hf
    exact ⟨j, q, hj, h1, by simpa using h⟩
/-- A right ring's epochs, one behind the other. -/
theorem rt_first {keep : Int} {E : List Kl} (h : RtP keep E) : ∃ q, E[0]? = some q ∧ now E = q.1 + (E.length : Int) - 1 := by
  have hl := h.2.2.1
  obtain ⟨q, hq⟩ : ∃ q, E[0]? = some q := ⟨E[0]'(by omega), List.getElem?_eq_getElem _⟩
  obtain ⟨k, hk⟩ : ∃ k, E[E.length - 1]? = some k := ⟨E[E.length - 1]'(by omega), List.getElem?_eq_getElem _⟩
  refine ⟨q, hq, ?_⟩
  rw [now_at hk, rt_at h hk hq]
  omega
theorem rt_has {keep : Int} {E : List Kl} (h : RtP keep E) {q : Kl} (hq : E[0]? = some q) {e : Int} (h1 : q.1 ≤ e) (h2 : e ≤ now E) : ∃ k, fnd E e = some k := by
  obtain ⟨q', hq', hn⟩ := rt_first h
  rw [hq] at hq'
  obtain rfl : q = q' := by injection hq'
  have hj : (e - q.1).toNat < E.length := by omega
  have hk : E[(e - q.1).toNat]? = some E[(e - q.1).toNat] := List.getElem?_eq_getElem hj
  have h3 := rt_at h hk hq
  have h4 := fnd_at h hk
  rw [h3, show q.1 + (((e - q.1).toNat : Nat) : Int) = e by omega] at h4
  exact ⟨_, h4⟩
/-- Behind a rotation a key is kept, or too old. -/
theorem tok_keeps {keep : Int} {E : List Kl} (h : RtP keep E) (hn : now E < 1048576) (d : List Int) {e : Int} {k0 : List Int} (he : e ≤ now E) (hf : fnd E e = some k0) :
    fnd (rot keep E d) e = some k0 ∨ (fnd (rot keep E d) e = none ∧ keep ≤ now (rot keep E d) - e) := by
  have hR := rt_rot h hn d
  have hnow := now_rot keep E d
  have hlen := rot_len keep E d
  obtain ⟨q0, hq0, hN⟩ := rt_first hR
  cases hc : fnd (rot keep E d) e with
  | some k =>
    left
    obtain ⟨j, q, hj, h1, h2⟩ := fnd_some hc
    have hjl := (List.getElem?_eq_some_iff.1 hj).1
    have h3 := rt_at hR hj hq0
    have h4 := rot_keeps h d (j := j) (k := q) (by omega) hj
    rw [h1, hf] at h4
    rw [h4, h2]
  | none =>
    right
    refine ⟨rfl, ?_⟩
    have hlt : e < q0.1 := by
      by_cases hx : q0.1 ≤ e
      · obtain ⟨k, hk⟩ := rt_has hR hq0 hx (by omega)
        rw [hk] at hc; cases hc
      · omega
    obtain ⟨p0, hp0, hM⟩ := rt_first h
    obtain ⟨j, q, hj, h1, -⟩ := fnd_some hf
    have h3 := rt_at h hj hp0
    have hl := h.2.2.2.1
    by_cases hk : (E.length : Int) + 1 ≤ keep
    · omega
    · omega
/-- While a token is carried behind rotations. -/
structure Carry (keep : Int) (E : List Kl) (ep : Int) (k0 : List Int) : Prop where
  right : RtP keep E
  late : ep ≤ now E
  key : fnd E ep = some k0 ∨ (fnd E ep = none ∧ keep ≤ now E - ep)
theorem carry_start {keep : Int} {E : List Kl} (h : RtP keep E) : Carry keep E (now E) (lastK E) := by
  have hl := h.2.2.1
  have hk : E[E.length - 1]? = some (E[E.length - 1]'(by omega)) := List.getElem?_eq_getElem _
  refine ⟨h, Int.le_refl _, .inl ?_⟩
  rw [now_at hk, lastK_at hk]
  exact fnd_at h hk
theorem Carry.rot {keep : Int} {E : List Kl} {ep : Int} {k0 : List Int} (h : Carry keep E ep k0) (hf : fnd E ep = some k0) (hn : now E < 1048576) (d : List Int) : Carry keep (rot keep E d) ep k0 :=
  ⟨rt_rot h.right hn d, by have := now_rot keep E d; have := h.late; omega, tok_keeps h.right hn d h.late hf⟩
theorem at_in {is un : Int} (h : is ≤ un) (i : Nat) : is ≤ is + (i : Int).tmod (un - is + 1) ∧ is + (i : Int).tmod (un - is + 1) ≤ un := by
  have h1 : (i : Int).tmod (un - is + 1) = (i : Int) % (un - is + 1) := Int.tmod_eq_emod_of_nonneg (by omega)
  rw [h1]
  have h2 := Int.emod_nonneg (i : Int) (b := un - is + 1) (by omega)
  have h3 := Int.emod_lt_of_pos (i : Int) (b := un - is + 1) (by omega)
  omega
end Go.Proofs.YtppbpmmfcoblmaaDoor.Tok
