/- Lemmas that the proof stands on, in build order: RgL RgE SameA RgW RgX Shut Open ShaY. -/
import Derived.Deep.DeepCutAuto
import Derived.Deep.CutBlock
import Derived.WalkKit
import Derived.ProofKit
import Derived.OpenShut
import Derived.Carry
import Derived.JoinedCond
import Derived.Test.YtdfmikamafbabaaDoorRows
import Derived.LaidMore
import Derived.Stop.Joined
import Derived.Test.YtdfmikamafbabaaDoorJ13ff1b1
import Derived.Test.YtdfmikamafbabaaDoorJ3e8b768
import Derived.Test.YtdfmikamafbabaaDoorJ47b0dfd
/- Layer 9 (ring): few, and the example of the laws. -/
namespace Go.Proofs.YtdfmikamafbabaaDoor.Rg
open Go.RowKit Slc Sha

set_option maxHeartbeats 800000 in
set_option maxRecDepth 100000 in
theorem few_any (keep : Int) (A : Option Addr) (n c B : Nat) (K : List Kp) (w : World) (h : KRow w B A n K) (hB : B ≤ w.heap.size) (hn : n ≤ maxLen) :
    Calls Tryd.prog 6 #[.agg #[.int .i64 keep, .slice A n c]] w fun x w' => (∃ b, x = .returned (.bool b) ∧ (b = true → n ≤ 30 ∧ ∀ k ∈ K, k.p.n ≤ 100)) ∧ Below w.heap.size w w' := by
  have H := Lib.hid h
  have HBB := Lib.hid hB
  have HLN := Lib.hid h.len
  have HB0 : Hid (Below w.heap.size w (w.alloc (.cells #[.int .i64 keep, .slice A n c] 24))) := (Below.refl _ _).alloc (Nat.le_refl _) _
  have HS1 : Hid ((w.alloc (.cells #[.int .i64 keep, .slice A n c] 24)).heap.size = w.heap.size + 1) := by unfold Hid; simp
  have c1 : (w.alloc (.cells #[.int .i64 keep, .slice A n c] 24)).cell? ⟨w.heap.size, 1, none⟩ = some (.slice A n c) := cell_of_blk (heap_alloc_new w _) rfl
  have HC := Lib.hid c1
  have HK1 := Lib.hid (H.out.below (HB0.out.mono HBB.out))
  clear h hB
  go_enter Tryd.func6, Tryd.ntmps6
  go_wp2_with fail
  generalize w.alloc (.cells #[.int .i64 keep, .slice A n c] 24) = w1 at *
  clear c1
  go_loopw [4, 8] (fun _ i wr => ∃ t : Nat, t ≤ n ∧ i = .int .i64 (t : Int) ∧ Hid (∀ j k, j < t → K[j]? = some k → k.p.n ≤ 100) ∧ Hid (Below w1.heap.size w1 wr)) (fun _ i _ => n - (intOf i).toNat)
  case atStart => exact ⟨0, Nat.zero_le _, rfl, Lib.hid (fun j k h => absurd h (by omega)), Lib.hid (Below.refl _ _)⟩
  case round =>
    obtain ⟨t, ht, rfl, HG, HB⟩ := hrel
    have HBW : Hid (Below w.heap.size w wr) := HB0.out.trans (HB.out.mono HB0.out.size)
    have c1 := (HB.out.cell (p := ⟨w.heap.size, 1, none⟩) (by have := HS1.out; show w.heap.size < _; omega)).trans HC.out
    by_cases hlt : t < n
    · obtain ⟨b, o, k, rfl, hbb, hk, hok, k0, k1⟩ := (HK1.out.below (HB.out.mono (by have := HBB.out; have := HS1.out; omega))).at hlt
      have hlt' : (t : Int) < (n : Int) := by omega
      have HKA := Lib.hid hk
      clear hk hok
      obtain ⟨e, pA, pn, pc, xs⟩ := k
      simp only at k0 k1
      have HBA : Hid (Below w.heap.size w (wr.alloc (.cells #[.int .i64 e, .slice pA pn pc] 35))) := HBW.out.alloc HBW.out.size _
      have HBR : Hid (Below w1.heap.size w1 (wr.alloc (.cells #[.int .i64 e, .slice pA pn pc] 35))) := HB.out.alloc HB.out.size _
      by_cases q0 : 100 < pn
      · have hd : decide ((100 : Int) < (pn : Int)) = true := by simp; omega
        go_wp2
        go_ret
        exact ⟨⟨false, rfl, fun h => by cases h⟩, HBA.out⟩
      · have hd : decide ((100 : Int) < (pn : Int)) = false := by simp; omega
        have m1 : IntKind.i64.wrap ((t : Int) + 1) = (t : Int) + 1 := IntWalk.i64_in _ ⟨by omega, by have h1 : n ≤ maxLen := hn; unfold maxLen at h1; omega⟩
        have HG2 : Hid (∀ j k, j < t + 1 → K[j]? = some k → k.p.n ≤ 100) := fun j k hj hk => by
          by_cases hjt : j < t
          · exact HG.out j k hjt hk
          · obtain rfl : j = t := by omega
            rw [HKA.out] at hk
            injection hk with hk
            subst hk
            simp only
            omega
        go_wp2
        go_roundw
        case rel => exact ⟨t + 1, by omega, by go_num, HG2, HBR⟩
        case measure => simp [intOf]; omega
    · obtain rfl : t = n := by omega
      have hall : Hid (∀ k ∈ K, k.p.n ≤ 100) := fun k hk => by
        obtain ⟨j, hj⟩ := List.getElem?_of_mem hk
        exact HG.out j k (by have h1 := (List.getElem?_eq_some_iff.1 hj).1; have h2 := HLN.out; omega) hj
      go_wp2
      go_ret
      exact ⟨⟨_, rfl, fun h => ⟨by simp at h; omega, hall.out⟩⟩, HBW.out⟩

/-- The example's keys. -/
def exK (t : Nat) : List Kl :=
  match t with
  | 0 => [(1, keyOf (List.replicate 32 0) 1)]
  | 1 => [(1, keyOf (List.replicate 32 0) 1), (2, keyOf (List.replicate 32 0) 2)]
  | _ => [(2, keyOf (List.replicate 32 0) 2), (3, keyOf (List.replicate 32 0) 3)]
theorem exK_next {t : Nat} (h : t < 2) : rot 2 (exK t) (List.replicate 32 0) = exK (t + 1) := by
  match t, h with
  | 0, _ => rfl
  | 1, _ => rfl
theorem exK_rt : ∀ {t : Nat}, t ≤ 2 → RtP 2 (exK t) ∧ now (exK t) = (t : Int) + 1
  | 0, _ => ⟨rt_one (by omega) _, rfl⟩
  | t + 1, h => by
    obtain ⟨h1, h2⟩ := exK_rt (t := t) (by omega)
    rw [← exK_next (by omega)]
    refine ⟨rt_rot h1 (by omega) _, ?_⟩
    rw [now_rot, h2]
    omega
theorem exK_len {t : Nat} : (exK t).length ≤ 2 := by
  unfold exK
  split <;> simp
theorem exK_32 {t : Nat} (h : t ≤ 2) : ∀ k ∈ exK t, k.2.length = 32 := fun k hk => by
  obtain ⟨j, hj⟩ := List.getElem?_of_mem hk
  exact ((exK_rt h).1.2.2.2.2 j k hj).1
/-- While the example's ring is rotated: its variable's block R. -/
structure Aw (w0 : World) (R t : Nat) (w' : World) : Prop where
  ring : ∃ A n c K, w'.heap[R]? = some (.cells #[.int .i64 2, .slice A n c] 24 (0, 0)) ∧ KRow w' w'.heap.size A n K ∧ NotIn R n A K ∧ ls K = exK t ∧ (A = none → c = 0) ∧ n ≤ c
  bel : Below w0.heap.size w0 w'

theorem aw_step {w0 w5 : World} {R t n c : Nat} {A : Option Addr} {K : List Kp} {x y : Value} (hb : Below w0.heap.size w0 w5) (hR : w0.heap.size ≤ R) (hblk : w5.heap[R]? = some (.cells #[x, y] 24 (0, 0))) (hk : KRow w5 w5.heap.size A n K) (hni : NotIn R n A K) (hls : ls K = exK t) (hnil : A = none → c = 0) (hnc : n ≤ c) :
    Aw w0 R t ((w5.setCell ⟨R, 0, none⟩ (.int .i64 2)).setCell ⟨R, 1, none⟩ (.slice A n c)) := by
  have hO : Only (fun k => k = R) w5 ((w5.setCell ⟨R, 0, none⟩ (.int .i64 2)).setCell ⟨R, 1, none⟩ (.slice A n c)) := (Only.setCell w5 ⟨R, 0, none⟩ _).trans (Only.setCell _ ⟨R, 1, none⟩ _) (fun i _ h => h)
  exact ⟨⟨A, n, c, K, set_blk (set_blk hblk), (hk.set hni hO (Nat.le_refl _)).more hO.size, hni, hls, hnil, hnc⟩, (hb.setCell hR _).setCell hR _⟩

theorem made32 : madeCells (Value.int .u8 0).cells 32 = (bv (List.replicate 32 0)).toArray := by kernel_rfl

set_option maxHeartbeats 1600000 in
set_option maxRecDepth 100000 in
theorem awake_any (hnew : NewOk) (hrot : RotateOk) (hnow : NowOk) (w : World) (hT : Lay w) : Calls Tryd.prog 5 #[] w fun x w' => x = .returned (.bool true) ∧ Below w.heap.size w w' := by
  obtain ⟨i0, hi, hz0, hz1, hz2⟩ := parts_of info8
  have HT := Lib.hid hT
  clear hT
  have kmk : ∀ w : World, (Instr.makeSlice 25 (.int .i64 32) (.int .i64 32)).run Tryd.prog w = .ok (.slice (some ⟨w.heap.size, 0, none⟩) 32 32) (w.alloc (.cells (bv (List.replicate 32 0)).toArray 5)) := fun w =>
    (run_make w 25 5 i0 (.int .u8 0) Tryd.underlying25 hi hz0 .i64 .i64 32 32 (by omega) (by omega) (by rw [hz2]; omega) (by omega)).trans (by rw [hz1, show (Int.toNat 32) * 1 = 32 by rfl, made32]; rfl)
  obtain ⟨zs, hzs⟩ : ∃ zs, zs = List.replicate 32 (0 : Int) := ⟨_, rfl⟩
  rw [← hzs] at kmk
  have HZS := Lib.hid hzs
  have zrow : Hid (∀ w : World, Row .u8 (w.alloc (.cells (bv zs).toArray 5)) (w.heap.size + 1) (some ⟨w.heap.size, 0, none⟩) 32 zs) := fun w => by
    refine ⟨by rw [hzs]; rfl, fun _ => ⟨w.heap.size, 0, rfl, by omega, fun j hj => ?_⟩⟩
    rw [Nat.zero_add]
    refine cell_of_blk (heap_alloc_new w _) ?_
    have hl : zs.length = 32 := by rw [hzs]; rfl
    rw [List.getElem?_toArray]
    simp only [bv, List.getElem?_map, List.getElem?_eq_getElem (show j < zs.length by omega), Option.map_some, List.getD, Option.getD_some]
  have HZB : Hid (∀ x ∈ zs, 0 ≤ x ∧ x ≤ 255) := fun x hx => by
    rw [hzs] at hx
    rw [(List.mem_replicate.1 hx).2]
    omega
  clear hzs
  go_enter Tryd.func5, Tryd.ntmps5
  go_wp2_with fail
  have hb1 : Below w.heap.size w (w.alloc (.cells (bv zs).toArray 5)) := (Below.refl _ _).alloc (Nat.le_refl _) _
  have HB1 := Lib.hid hb1
  have HS1 : Hid ((w.alloc (.cells (bv zs).toArray 5)).heap.size = w.heap.size + 1) := by unfold Hid; simp
  have HZL : Hid (zs.length = 32) := by unfold Hid; rw [HZS.out]; rfl
  have HN := Lib.hid (hnew 2 (some ⟨w.heap.size, 0, none⟩) 32 32 zs (w.alloc (.cells (bv zs).toArray 5)) (by rw [HS1.out]; exact zrow.out w) (fun h => by cases h) (by omega) (by unfold maxLen; omega) HZB.out (by omega) (HT.out.below hb1 HT.out.tab.1))
  clear hb1
  refine HN.out.mono ?_
  rintro e2 w2 hN2
  obtain ⟨A, n, c, K, rfl, hk, hls, hfr, hnil, hnc, hb2⟩ := hN2.yes ⟨by omega, HZL.out⟩
  have HB2 := Lib.hid (HB1.out.trans (hb2.mono HB1.out.size))
  have HA0 : Hid (Aw w w2.heap.size 0 (w2.alloc (.cells #[.int .i64 2, .slice A n c] 24))) := by
    have hb3 : Below w2.heap.size w2 (w2.alloc (.cells #[.int .i64 2, .slice A n c] 24)) := (Below.refl _ _).alloc (Nat.le_refl _) _
    exact ⟨⟨A, n, c, K, heap_alloc_new _ _, (hk.below hb3).more hb3.size, hk.notIn (Nat.le_refl _), by rw [hls, HZS.out]; rfl, hnil, hnc⟩, HB2.out.alloc HB2.out.size _⟩
  have HR : Hid (w.heap.size ≤ w2.heap.size) := HB2.out.size
  clear hk hls hfr hnil hnc hb2 hN2 HN
  go_wp2_with fail
  generalize w2.alloc (.cells #[.int .i64 2, .slice A n c] 24) = w3 at *
  generalize w2.heap.size = R at *
  go_loopw [2, 8] (fun e i wr => ∃ t : Nat, t ≤ 2 ∧ i = .int .i64 (t : Int) ∧ e = .int .i64 0 ∧ Hid (Aw w R t wr)) (fun _ i _ => 2 - (intOf i).toNat)
  case atStart => exact ⟨0, Nat.zero_le _, rfl, rfl, HA0⟩
  case round =>
    obtain ⟨t, ht, rfl, rfl, HA⟩ := hrel
    obtain ⟨A1, n1, c1, K1, hblk, hk1, hni, hls1, hnil1, hnc1⟩ := HA.out.ring
    by_cases hlt : t < 2
    · have hlt' : (t : Int) < 2 := by omega
      have r0 : wr.drew.cell? ⟨R, 0, none⟩ = some (.int .i64 2) := cell_of_blk (w := wr.drew) hblk rfl
      have r1 : wr.drew.cell? ⟨R, 1, none⟩ = some (.slice A1 n1 c1) := cell_of_blk (w := wr.drew) hblk rfl
      have hba : Below wr.heap.size wr ((wr.alloc (.cells (bv zs).toArray 5)).drew) := ((Below.refl _ _).alloc (Nat.le_refl _) _).drew
      have hRl : R < wr.heap.size := (Array.getElem?_eq_some_iff.1 hblk).1
      have s0 := (hba.cell (p := ⟨R, 0, none⟩) hRl).trans r0
      have s1 := (hba.cell (p := ⟨R, 1, none⟩) hRl).trans r1
      have hsa : ((wr.alloc (.cells (bv zs).toArray 5)).drew).heap.size = wr.heap.size + 1 := by show (wr.alloc _).heap.size = _; simp
      have hbw : Below w.heap.size w ((wr.alloc (.cells (bv zs).toArray 5)).drew) := (HA.out.bel.alloc HA.out.bel.size _).drew
      have hka : KRow ((wr.alloc (.cells (bv zs).toArray 5)).drew) ((wr.alloc (.cells (bv zs).toArray 5)).drew).heap.size A1 n1 K1 := (hk1.below hba).more hba.size
      obtain ⟨hrt, hnow1⟩ := exK_rt (t := t) (by omega)
      have HROT := Lib.hid (hrot 2 A1 (some ⟨wr.heap.size, 0, none⟩) n1 c1 32 32 K1 zs ((wr.alloc (.cells (bv zs).toArray 5)).drew) hka hnil1 hnc1 (small_of (keep := 2) hka (by rw [hls1]; exact hrt)) (by omega) (by rw [hsa]; exact zrow.out wr) (fun h => by cases h) (by omega) (by unfold maxLen; omega) HZB.out (HT.out.below hbw HT.out.tab.1))
      have HYES : Hid (RtP 2 (ls K1) ∧ zs.length = 32) := ⟨by rw [hls1]; exact hrt, HZL.out⟩
      have HTOP : Hid (now (ls K1) ≠ 1048576) := by unfold Hid; rw [hls1, hnow1]; omega
      have HNX : Hid (rot 2 (ls K1) zs = exK (t + 1)) := by unfold Hid; rw [hls1, HZS.out]; exact exK_next hlt
      have HBW := Lib.hid hbw
      have HRL : Hid (R < ((wr.alloc (.cells (bv zs).toArray 5)).drew).heap.size) := by unfold Hid; rw [hsa]; exact Nat.lt_succ_of_lt hRl
      have HBK : Hid (((wr.alloc (.cells (bv zs).toArray 5)).drew).heap[R]? = some (.cells #[.int .i64 2, .slice A1 n1 c1] 24 (0, 0))) := (hba.block R hRl).trans hblk
      clear hba hRl hsa hbw hka hrt hnow1 hblk hk1 hni hls1 hnil1 hnc1
      go_wp2_with fail
      go_region_with (first | (go_at_call 16; refine HROT.out.mono ?_; rintro e5 w5 hR5; obtain ⟨A2, n2, c2, K2, rfl, hk2, hls2, hfr2, hnil2, hnc2, hb2⟩ := hR5.yes HYES.out HTOP.out; have hblk2 := (hb2.block R HRL.out).trans HBK.out; have p0 : w5.cell? ⟨R, 0, none⟩ = some (.int .i64 2) := cell_of_blk hblk2 rfl; have p1 : w5.cell? ⟨R, 1, none⟩ = some (.slice A1 n1 c1) := cell_of_blk hblk2 rfl; have p2 : w5.frozen? ⟨R, 0, none⟩ = false := free_of_blk hblk2; have p3 : w5.frozen? ⟨R, 1, none⟩ = false := free_of_blk hblk2; have HST := Lib.hid (aw_step (HBW.out.trans (hb2.mono HBW.out.size)) HR.out hblk2 hk2 (hfr2.notIn HRL.out) (hls2.trans HNX.out) hnil2 hnc2); clear hk2 hls2 hfr2 hnil2 hnc2 hb2 hblk2 hR5))
      all_goals
        go_wp2
        go_roundw
        case' rel => exact ⟨t + 1, by omega, by go_num, rfl, HST⟩
        case' measure => simp [intOf]; omega
    · obtain rfl : t = 2 := by omega
      have r1 : wr.cell? ⟨R, 1, none⟩ = some (.slice A1 n1 c1) := cell_of_blk hblk rfl
      have r0 : wr.cell? ⟨R, 0, none⟩ = some (.int .i64 2) := cell_of_blk hblk rfl
      obtain rfl : n1 = 2 := by rw [← hk1.len, ← ls_len K1, hls1]; rfl
      obtain ⟨b, o, k, rfl, hbb, hk, hok, k0, -⟩ := hk1.at (j := 0) (by omega)
      have hke : k.e = 2 := by
        have := ls_at hk
        rw [hls1] at this
        simp [exK] at this
        exact this.1.symm
      rw [hke, Nat.zero_mul, Nat.add_zero] at k0
      have HNOW := Lib.hid (hnow 2 (some ⟨b, o, none⟩) 2 c1 K1 wr hk1 hnil1 hnc1 (small_of (keep := 2) hk1 (by rw [hls1]; exact (exK_rt (Nat.le_refl _)).1)) (by omega))
      have HNE : Hid (now (ls K1) = 3) := by unfold Hid; rw [hls1]; exact (exK_rt (Nat.le_refl _)).2
      have HBW := Lib.hid HA.out.bel
      clear hblk hk1 hni hls1 hnil1 hnc1 hk hok hke HA HA0
      go_wp2_with fail
      refine HNOW.out.mono ?_
      rintro e9 w9 ⟨rfl, hb9⟩
      rw [HNE.out]
      have HB9 := Lib.hid (HBW.out.trans (hb9.mono HBW.out.size))
      clear hb9
      go_wp2
      go_ret
      exact ⟨rfl, HB9.out⟩
end Go.Proofs.YtdfmikamafbabaaDoor.Rg

/- Layer 9 (ring): the reference's Same, of rings that read alike, as a contract. -/
namespace Go.Proofs.YtdfmikamafbabaaDoor.Rg
open Go.RowKit Slc

theorem row_drewN {w : World} {B n q : Nat} {A : Option Addr} {xs : List Int} (h : Row .u8 w B A n xs) : Row .u8 (w.drewN q) B A n xs := h

set_option maxHeartbeats 1600000 in
set_option maxRecDepth 100000 in
theorem refsame_yes (keep : Int) (A A' : Option Addr) (n c n' c' B B' : Nat) (K K' : List Kp) (w : World) (h : KRow w B A n K) (h' : KRow w B' A' n' K') (he : ls K = ls K') (hB : B ≤ w.heap.size) (hB' : B' ≤ w.heap.size) (hn : n ≤ 4398046511104) (hp : ∀ k ∈ K, k.p.n ≤ 4398046511104) :
    Calls Tryd.prog 10 #[.agg #[.int .i64 keep, .slice A n c], .agg #[.int .i64 keep, .slice A' n' c']] w fun x w' => x = .returned (.bool true) ∧ Below w.heap.size w w' := by
  obtain rfl : n = n' := by rw [← h.len, ← h'.len, ← ls_len K, he, ls_len]
  obtain ⟨w2, hw2⟩ : ∃ w2, (w.alloc (.cells #[.int .i64 keep, .slice A n c] 24)).alloc (.cells #[.int .i64 keep, .slice A' n c'] 24) = w2 := ⟨_, rfl⟩
  have hb2 : Below w.heap.size w w2 := by rw [← hw2]; exact ((Below.refl _ _).alloc (Nat.le_refl _) _).alloc (by simp) _
  have HB2 := Lib.hid hb2
  have H := Lib.hid (h.below (hb2.mono hB))
  have H' := Lib.hid (h'.below (hb2.mono hB'))
  have g0 : w2.cell? ⟨w.heap.size, 0, none⟩ = some (.int .i64 keep) := by rw [← hw2]; exact cell_of_blk (heap_alloc2_old w _ _) rfl
  have g1 : w2.cell? ⟨w.heap.size, 1, none⟩ = some (.slice A n c) := by rw [← hw2]; exact cell_of_blk (heap_alloc2_old w _ _) rfl
  have g2 : w2.cell? ⟨w.heap.size + 1, 0, none⟩ = some (.int .i64 keep) := by rw [← hw2]; exact cell_of_blk (heap_alloc2_new w _ _) rfl
  have g3 : w2.cell? ⟨w.heap.size + 1, 1, none⟩ = some (.slice A' n c') := by rw [← hw2]; exact cell_of_blk (heap_alloc2_new w _ _) rfl
  have HE := Lib.hid he
  have HPN := Lib.hid hp
  have HW2 := Lib.hid hw2
  clear h h' he hp hb2 hw2
  go_enter Tryd.func10, Tryd.ntmps10
  go_wp2_with fail
  rw [HW2.out]
  go_loopw [5] (fun i wr => ∃ k q : Nat, k ≤ n ∧ i = .int .i64 (k : Int) ∧ Hid (wr = w2.drewN q)) (fun i _ => n - (intOf i).toNat)
  case atStart => exact ⟨0, 0, Nat.zero_le _, rfl, rfl⟩
  case round =>
    obtain ⟨t, q, hk, rfl, hw⟩ := hrel
    have f1 : wr.cell? ⟨w.heap.size, 1, none⟩ = some (.slice A n c) := by rw [hw.out]; exact g1
    have f3 : wr.cell? ⟨w.heap.size + 1, 1, none⟩ = some (.slice A' n c') := by rw [hw.out]; exact g3
    have HX : Hid (KRow wr B A n K) := by unfold Hid; rw [hw.out]; exact H.out.below (below_drewN (Below.refl B w2))
    have HX' : Hid (KRow wr B' A' n K') := by unfold Hid; rw [hw.out]; exact H'.out.below (below_drewN (Below.refl B' w2))
    clear g0 g1 g2 g3
    by_cases hlt : t < n
    · obtain ⟨b, o, k, rfl, hbb, hk, hok, k0, k1⟩ := HX.out.at hlt
      obtain ⟨b', o', k', rfl, hbb', hk', hok', k0', k1'⟩ := HX'.out.at hlt
      have hlt' : (t : Int) < (n : Int) := by omega
      have e1 := ls_at hk
      rw [HE.out, ls_at hk'] at e1
      have hpn := HPN.out k (List.mem_of_getElem? hk)
      obtain ⟨ke, pA, pn, pc, xs⟩ := k
      obtain ⟨ke', pA', pn', pc', xs'⟩ := k'
      simp only [Option.some.injEq, Prod.mk.injEq] at e1 hpn
      obtain ⟨rfl, rfl⟩ := e1
      simp only at k0 k1 k0' k1'
      have l1 := hok.len
      have l2 := hok'.len
      simp only at l1 l2
      obtain rfl : pn = pn' := by omega
      have HR : Hid (Row .u8 wr B pA pn xs') := hok.right.1
      have HR' : Hid (Row .u8 wr B' pA' pn xs') := hok'.right.1
      clear hok hok' hk hk' l1 l2
      go_wp2_with fail
      go_quiet ((go_at_call 14; refine Calls.quiet_of (same_yes pA pA' pn pc pc' B B' xs' _ hpn HR.out HR'.out)))
      go_wp2
      go_roundw
      case rel => exact ⟨t + 1, q + nq, by omega, by go_num, by unfold Hid; rw [hw.out, World.drewN_drewN]⟩
      case measure => simp [intOf]; omega
    · go_wp2
      go_ret
      exact ⟨rfl, by rw [hw.out]; exact below_drewN HB2.out⟩
end Go.Proofs.YtdfmikamafbabaaDoor.Rg

/- The reference's Same of any two slices of bytes: a contract over the program. -/
namespace Go.Proofs.YtdfmikamafbabaaDoor
open Go.RowKit

set_option maxHeartbeats 800000 in
set_option maxRecDepth 100000 in
/-- Any two slices. -/
theorem same_any (A A' : Option Addr) (n c n' c' B B' : Nat) (xs ys : List Int) (w : World) (hn : n ≤ 4398046511104) (hn' : n' ≤ 4398046511104) (h1 : Row .u8 w B A n xs) (h2 : Row .u8 w B' A' n' ys) :
    Calls Tryd.prog 14 #[.slice A n c, .slice A' n' c'] w fun e w' => e = .returned (.bool (decide (xs = ys))) ∧ ∃ q, w' = w.drewN q := by
  have H1 := Lib.hid h1
  have H2 := Lib.hid h2
  have l1 := h1.len
  have l2 := h2.len
  clear h1 h2
  by_cases hne : n = n'
  · subst hne
    go_enter Tryd.func14, Tryd.ntmps14
    go_wp2
    go_loopw [5] (fun i wr => ∃ k q : Nat, k ≤ n ∧ i = .int .i64 (k : Int) ∧ Hid (xs.take k = ys.take k) ∧ Hid (wr = w.drewN q)) (fun i _ => n - (intOf i).toNat)
    case atStart => exact ⟨0, 0, Nat.zero_le _, rfl, rfl, rfl⟩
    case round =>
      obtain ⟨k, q, hk, rfl, HT, hw⟩ := hrel
      obtain rfl := hw.out
      clear hw
      by_cases hlt : k < n
      · obtain ⟨b, o, rfl, _, hc1⟩ := H1.out.cell_at hlt
        obtain ⟨b', o', rfl, _, hc2⟩ := H2.out.cell_at hlt
        have hx : xs.getD k 0 = xs[k]'(by omega) := by simp [List.getD, show k < xs.length by omega]
        have hy : ys.getD k 0 = ys[k]'(by omega) := by simp [List.getD, show k < ys.length by omega]
        by_cases heq : xs.getD k 0 = ys.getD k 0
        · have HT2 : Hid (xs.take (k + 1) = ys.take (k + 1)) := by
            unfold Hid
            rw [List.take_succ_eq_append_getElem (by omega), List.take_succ_eq_append_getElem (by omega), HT.out, ← hx, ← hy, heq]
          rw [← heq] at hc2
          clear hx hy heq
          go_wp2
          go_quiet (fail)
          go_wp2
          go_roundw
          case rel => exact ⟨k + 1, _, by omega, by go_num, HT2, by unfold Hid; rfl⟩
          case measure => simp [intOf]; omega
        · have HNE : Hid (decide (xs = ys) = false) := by
            unfold Hid
            refine decide_eq_false fun h => heq ?_
            rw [h]
          have hnb : (xs.getD k 0 == ys.getD k 0) = false := beq_eq_false_iff_ne.2 heq
          have hnb2 : (xs.getD k 0 != ys.getD k 0) = true := by rw [bne, hnb]; rfl
          generalize xs.getD k 0 = x at *
          generalize ys.getD k 0 = y at *
          clear hx hy heq
          go_wp2
          go_quiet (fail)
          go_wp2
          go_ret
          exact ⟨by rw [HNE.out]; rfl, q + nq, World.drewN_drewN _ _ _⟩
      · have HY : Hid (decide (xs = ys) = true) := by
          unfold Hid
          have h := HT.out
          rw [List.take_of_length_le (by omega), List.take_of_length_le (by omega)] at h
          exact decide_eq_true h
        go_wp2
        go_ret
        exact ⟨by rw [HY.out]; rfl, _, rfl⟩
  · have HNE : Hid (decide (xs = ys) = false) := by
      unfold Hid
      refine decide_eq_false fun h => hne ?_
      rw [← l1, ← l2, h]
    have hb : ((n : Int) == (n' : Int)) = false := beq_eq_false_iff_ne.2 (by omega)
    have hb2 : ((n : Int) != (n' : Int)) = true := by rw [bne, hb]; rfl
    clear hne
    go_enter Tryd.func14, Tryd.ntmps14
    go_wp2
    go_ret
    exact ⟨by rw [HNE.out]; rfl, 0, rfl⟩
end Go.Proofs.YtdfmikamafbabaaDoor

/- Layer 9 (ring): the walk of the law on rings, rotations and keys. -/
namespace Go.Proofs.YtdfmikamafbabaaDoor.Rg
open Go.RowKit Slc Sha

/-- Behind the law's boxes: the ring's block G, the numbers' block G + 1. -/
structure Bx (w0 : World) (keep : Int) (A : Option Addr) (n c : Nat) (N0 N1 : Int) (w' : World) : Prop where
  ring : w'.cell? ⟨w0.heap.size, 0, none⟩ = some (.int .i64 keep) ∧ w'.cell? ⟨w0.heap.size, 1, none⟩ = some (.slice A n c)
  nums : w'.cell? ⟨w0.heap.size + 1, 0, none⟩ = some (.int .i64 N0) ∧ w'.cell? ⟨w0.heap.size + 1, 1, none⟩ = some (.int .i64 N1)
  size : w0.heap.size + 2 ≤ w'.heap.size
  bel : Below w0.heap.size w0 w'
theorem Bx.below {w0 w1 w2 : World} {keep : Int} {A : Option Addr} {n c : Nat} {N0 N1 : Int} (h : Bx w0 keep A n c N0 N1 w1) (hb : Below w1.heap.size w1 w2) : Bx w0 keep A n c N0 N1 w2 :=
  have h2 := h.size
  ⟨⟨(hb.cell (p := ⟨w0.heap.size, 0, none⟩) (by show w0.heap.size < _; omega)).trans h.ring.1, (hb.cell (p := ⟨w0.heap.size, 1, none⟩) (by show w0.heap.size < _; omega)).trans h.ring.2⟩,
    ⟨(hb.cell (p := ⟨w0.heap.size + 1, 0, none⟩) (by show w0.heap.size + 1 < _; omega)).trans h.nums.1, (hb.cell (p := ⟨w0.heap.size + 1, 1, none⟩) (by show w0.heap.size + 1 < _; omega)).trans h.nums.2⟩,
    by have := hb.size; omega, h.bel.trans (hb.mono h.bel.size)⟩

theorem now_take {E : List Kl} {t : Nat} {k : Kl} (h : E[t]? = some k) : now (E.take (t + 1)) = k.1 := by
  obtain ⟨h1, h2⟩ := List.getElem?_eq_some_iff.1 h
  rw [List.take_succ_eq_append_getElem h1, now_snoc, h2]

/-- A key's bytes, laid as a slice of one key. -/
theorem laid_one {w5 : World} {base : Nat} {A5 : Option Addr} {c5 : Nat} {e : Int} {xs : List Int} {tk : TypeId} (hk : w5.ownsRow base 5 1 (.slice A5 32 c5) 32 (xs.map (Value.int .u8))) (hc : 32 ≤ c5) (hn : A5 = none → c5 = 0) (hx : ∀ x ∈ xs, 0 ≤ x ∧ x ≤ 255) (he : 0 ≤ e ∧ e ≤ 16777216) :
    KRow (w5.alloc (.cells #[.int .i64 e, .slice A5 32 c5] tk)) (w5.alloc (.cells #[.int .i64 e, .slice A5 32 c5] tk)).heap.size (some ⟨w5.heap.size, 0, none⟩) 1 [⟨e, ⟨A5, 32, c5, xs⟩⟩] := by
  have hba : Below w5.heap.size w5 (w5.alloc (.cells #[.int .i64 e, .slice A5 32 c5] tk)) := (Below.refl _ _).alloc (Nat.le_refl _) _
  refine KRow.of_blk (K := [⟨e, ⟨A5, 32, c5, xs⟩⟩]) (heap_alloc_new w5 _) (by simp) rfl (fun k hk' => ?_)
  obtain rfl := List.mem_singleton.1 hk'
  exact ⟨⟨((Row.of_own hk).below hba).more hba.size, hn⟩, hc, hx, by simp only; omega, by simp only; omega⟩

set_option maxHeartbeats 3200000 in
set_option maxRecDepth 100000 in
theorem tells_walk (hright : RightOk) (hnow : NowOk) (hfind : FindOk) (hnew : NewOk) (hrot : RotateOk) (keep N0 N1 : Int) (A A' : Option Addr) (n c n' c' : Nat) (K : List Kp) (d : List Int) (w : World) (h : KRow w w.heap.size A n K) (hnil : A = none → c = 0) (hc : n ≤ c) (hm : c ≤ maxLen) (hkeep : -9223372036854775808 ≤ keep ∧ keep ≤ 9223372036854775807)
    (h' : Row .u8 w w.heap.size A' n' d) (hnil' : A' = none → c' = 0) (hc' : n' ≤ c') (hm' : c' ≤ maxLen) (hd : ∀ x ∈ d, 0 ≤ x ∧ x ≤ 255) (hN0 : -9223372036854775808 ≤ N0 ∧ N0 ≤ 9223372036854775807) (hN1 : -9223372036854775808 ≤ N1 ∧ N1 ≤ 9223372036854775807) (hT : Lay w) :
    Calls Tryd.prog 3 #[.agg #[.int .i64 keep, .slice A n c], .slice A' n' c', .agg #[.int .i64 N0, .int .i64 N1]] w fun x w' => x = .returned (.bool true) ∧ Below w.heap.size w w' := by
  have H := Lib.hid h
  have HD := Lib.hid h'
  have HNIL := Lib.hid hnil
  have HNIL' := Lib.hid hnil'
  have HDB := Lib.hid hd
  have HT := Lib.hid hT
  have HC := Lib.hid hc
  have HC' := Lib.hid hc'
  have HM := Lib.hid (Nat.le_trans hc hm)
  have HM' := Lib.hid (Nat.le_trans hc' hm')
  have HKE := Lib.hid hkeep
  have HN0 := Lib.hid hN0
  have HN1 := Lib.hid hN1
  have HX : Hid (Bx w keep A n c N0 N1 ((w.alloc (.cells #[.int .i64 keep, .slice A n c] 24)).alloc (.cells #[.int .i64 N0, .int .i64 N1] 26))) :=
    ⟨⟨cell_of_blk (heap_alloc2_old w _ _) rfl, cell_of_blk (heap_alloc2_old w _ _) rfl⟩, ⟨cell_of_blk (heap_alloc2_new w _ _) rfl, cell_of_blk (heap_alloc2_new w _ _) rfl⟩, by simp, ((Below.refl _ _).alloc (Nat.le_refl _) _).alloc (by simp) _⟩
  clear h hnil hc hm hkeep h' hnil' hc' hm' hd hN0 hN1 hT
  go_enter Tryd.func3, Tryd.ntmps3
  go_wp2_with fail
  refine (awake_any hnew hrot hnow _ (HT.out.below HX.out.bel HT.out.tab.1)).mono ?_
  rintro e1 w1 ⟨rfl, hb1⟩
  have HX1 := Lib.hid (HX.out.below hb1)
  clear hb1 HX
  have g0 := HX1.out.ring.1
  have g1 := HX1.out.ring.2
  go_wp2_with fail
  refine (few_any keep A n c w.heap.size K w1 (H.out.below HX1.out.bel) HX1.out.bel.size HM.out).mono ?_
  rintro e2 w2 ⟨⟨b2, rfl, hfew⟩, hb2⟩
  have HX2 := Lib.hid (HX1.out.below hb2)
  clear hb2 HX1 g0 g1
  cases b2 with
  | false =>
    go_wp2
    go_ret
    exact ⟨rfl, HX2.out.bel⟩
  | true =>
    obtain ⟨hn30, hk100⟩ := hfew rfl
    have HSM : Hid (Small n K) := ⟨by omega, fun k hk => by have := hk100 k hk; omega⟩
    have HK100 := Lib.hid hk100
    clear hfew hk100
    by_cases hbig : 200 < n'
    · have hd : decide ((200 : Int) < (n' : Int)) = true := by simp; omega
      go_wp2
      go_ret
      exact ⟨rfl, HX2.out.bel⟩
    have hd : decide ((200 : Int) < (n' : Int)) = false := by simp; omega
    have HX2d : Hid (Bx w keep A n c N0 N1 w2.drew) := HX2.out.below (Below.refl _ _).drew
    have HKD : Hid (KRow w2.drew w2.drew.heap.size A n K) := (H.out.below HX2d.out.bel).more HX2d.out.bel.size
    have g0 := HX2d.out.ring.1
    have g1 := HX2d.out.ring.2
    go_wp2_with fail
    go_region_held3 (fun wx => wx.cell? ⟨w.heap.size, 0, none⟩ = some (.int .i64 keep) ∧ wx.cell? ⟨w.heap.size, 1, none⟩ = some (.slice A n c)) (first | exact ⟨g0, g1⟩ | exact ⟨s0, s1⟩ | exact ⟨t0, t1⟩) (first
      | (go_at_call 7; refine (hright keep A n c K w2.drew HKD.out HNIL.out HC.out HSM.out HKE.out).mono ?_; rintro e3 w3 ⟨rfl, hb3⟩; have HX3 := Lib.hid (HX2d.out.below hb3); have s0 := HX3.out.ring.1; have s1 := HX3.out.ring.2; clear hb3)
      | (go_at_call 8; refine (refright_any keep A n c w.heap.size K w3 (H.out.below HX3.out.bel) HX3.out.bel.size (by omega)).mono ?_; rintro e4 w4 ⟨rfl, hb4⟩; have HX4 := Lib.hid (HX3.out.below hb4); have t0 := HX4.out.ring.1; have t1 := HX4.out.ring.2; clear hb4))
    clear g0 g1 s0 s1 HKD HX2d HX2 HX3
    have q0 := HX4.out.nums.1
    have HT4 := Lib.hid (HT.out.below HX4.out.bel HT.out.tab.1)
    have HDX := Lib.hid ((HD.out.below HX4.out.bel).more HX4.out.bel.size)
    have HDL := Lib.hid HD.out.len
    go_upto_region 8 with (go_at_call 9; refine (hnew N0 A' n' c' d w4 HDX.out HNIL'.out HC'.out HM'.out HDB.out HN0.out HT4.out).mono ?_; rintro e5 w5 hN; obtain ⟨kk, A5, n5, c5, ee, rfl, hb5, hno, hyes⟩ := newTo_form hN; have HX5 := Lib.hid (HX4.out.below hb5); have HNO := Lib.hid hno; have HYES := Lib.hid hyes; clear hN hb5 hno hyes)
    have HB6 : Hid (Below w5.heap.size w5 (w5.alloc (.cells #[.int .i64 kk, .slice A5 n5 c5] 24))) := (Below.refl _ _).alloc (Nat.le_refl _) _
    have HX6 := Lib.hid (HX5.out.below HB6.out)
    have HR6 : Hid ((w5.alloc (.cells #[.int .i64 kk, .slice A5 n5 c5] 24)).heap[w5.heap.size]? = some (.cells #[.int .i64 kk, .slice A5 n5 c5] 24 (0, 0))) := heap_alloc_new _ _
    have HK6 : Hid ((1 ≤ N0 ∧ N0 ≤ 16) ∧ d.length = 32 → ee = 0 ∧ kk = N0 ∧ ∃ K5, KRow (w5.alloc (.cells #[.int .i64 kk, .slice A5 n5 c5] 24)) (w5.alloc (.cells #[.int .i64 kk, .slice A5 n5 c5] 24)).heap.size A5 n5 K5 ∧ ls K5 = [(1, keyOf d 1)]) := fun h => by
      obtain ⟨h1, h2, K5, h3, h4⟩ := HYES.out h
      exact ⟨h1, h2, K5, (h3.below HB6.out).more HB6.out.size, h4⟩
    clear HYES HB6 HX5 HX4 HT4 HDX
    generalize w5.heap.size = G5 at *
    generalize w5.alloc (.cells #[.int .i64 kk, .slice A5 n5 c5] 24) = w6 at *
    obtain ⟨cb, hcb⟩ : ∃ cb : Bool, cb = decide (¬ ((1 ≤ N0 ∧ N0 ≤ 16) ∧ d.length = 32)) := ⟨_, rfl⟩
    have HCB := Lib.hid hcb
    clear hcb
    go_cut [52] (fun v wr => v = .bool cb ∧ wr = w6)
    case first =>
      have q0 := HX6.out.nums.1
      by_cases g1 : N0 < 1
      · have hd1 : decide (N0 < 1) = true := decide_eq_true g1
        go_wp2_with fail
        go_meet
        exact ⟨by rw [HCB.out, decide_eq_true (by omega)], rfl⟩
      by_cases g2 : 16 < N0
      · have hd1 : decide (N0 < 1) = false := decide_eq_false g1
        have hd2 : decide (16 < N0) = true := decide_eq_true g2
        go_wp2_with fail
        go_meet
        exact ⟨by rw [HCB.out, decide_eq_true (by omega)], rfl⟩
      have hd1 : decide (N0 < 1) = false := decide_eq_false g1
      have hd2 : decide (16 < N0) = false := decide_eq_false g2
      by_cases g3 : n' = 32
      · have hd3 : ((n' : Int) != 32) = false := by rw [g3]; rfl
        have G3 := Lib.hid g3
        clear g3
        go_wp2_with fail
        go_meet
        exact ⟨by rw [HCB.out, decide_eq_false (by rw [HDL.out]; have := G3.out; omega)], rfl⟩
      · have hd3 : ((n' : Int) != 32) = true := bne_iff_ne.2 (by omega)
        have G3 := Lib.hid g3
        clear g3
        go_wp2_with fail
        go_meet
        exact ⟨by rw [HCB.out, decide_eq_true (by rw [HDL.out]; have := G3.out; omega)], rfl⟩
    case rest =>
      obtain ⟨rfl, rfl⟩ := hcut
      go_upto_if 52 with fail
      go_cut [] (fun wr => Hid (Bx w keep A n c N0 N1 wr))
      case first =>
        have r6 := HR6.out
        have p0 : wc.cell? ⟨G5, 0, none⟩ = some (.int .i64 kk) := cell_of_blk r6 rfl
        have p1 : wc.cell? ⟨G5, 1, none⟩ = some (.slice A5 n5 c5) := cell_of_blk r6 rfl
        have q0 := HX6.out.nums.1
        clear r6
        cases cb with
        | true =>
          obtain ⟨rfl, rfl⟩ := HNO.out (of_decide_eq_true HCB.out.symm)
          go_wp2_with fail
          go_meet
          exact HX6
        | false =>
          have hcond : (1 ≤ N0 ∧ N0 ≤ 16) ∧ d.length = 32 := by
            have := of_decide_eq_false HCB.out.symm
            exact Decidable.of_not_not this
          obtain ⟨rfl, rfl, K5, hk5, hls5⟩ := HK6.out hcond
          have hG5 : G5 < wc.heap.size := (Array.getElem?_eq_some_iff.1 HR6.out).1
          have HG5 := Lib.hid hG5
          have HXD : Hid (Bx w keep A n c kk N1 wc.drew) := HX6.out.below (Below.refl _ _).drew
          have HDD : Hid (Row .u8 wc.drew wc.drew.heap.size A' n' d) := (HD.out.below HXD.out.bel).more HXD.out.bel.size
          have HK5 : Hid (KRow wc.drew wc.drew.heap.size A5 n5 K5) := hk5.below (Below.refl _ _).drew
          have HLS := Lib.hid hls5
          have HL32 : Hid (n5 ≤ 4398046511104 ∧ ∀ k ∈ K5, k.p.n ≤ 4398046511104) := by
            have h1 : K5.length = 1 := by rw [← ls_len, hls5]; rfl
            have h2 := hk5.len
            refine ⟨by omega, fun k hk => ?_⟩
            obtain ⟨j, hj⟩ := List.getElem?_of_mem hk
            have h3 := ls_at hj
            rw [hls5] at h3
            have hj0 : j = 0 := by
              have := (List.getElem?_eq_some_iff.1 h3).1
              simpa using this
            subst hj0
            simp only [List.getElem?_cons_zero, Option.some.injEq, Prod.mk.injEq] at h3
            have h4 := (hk5.ok k hk).len
            rw [← h3.2, keyOf_len] at h4
            omega
          have a0 : wc.drew.cell? ⟨G5, 0, none⟩ = some (.int .i64 kk) := p0
          have a1 : wc.drew.cell? ⟨G5, 1, none⟩ = some (.slice A5 n5 c5) := p1
          have a2 : wc.drew.cell? ⟨w.heap.size + 1, 0, none⟩ = some (.int .i64 kk) := q0
          clear hcond hk5 hls5 hG5
          go_wp2_with fail
          go_region_held3 (fun wx => wx.cell? ⟨G5, 0, none⟩ = some (.int .i64 kk) ∧ wx.cell? ⟨G5, 1, none⟩ = some (.slice A5 n5 c5) ∧ wx.cell? ⟨w.heap.size + 1, 0, none⟩ = some (.int .i64 kk)) (first | exact ⟨a0, a1, a2⟩ | exact ⟨b0, b1, b2⟩ | exact ⟨d0, d1, d2⟩ | exact ⟨f0, f1, f2⟩) (first
            | (go_at_call 11; go_loud (refine (refkey_any A' n' c' d 1 wc.drew HDD.out HNIL'.out (by omega) HDB.out (by omega)).mono ?_; rintro e7 w7 ⟨v7, rfl, hown7, hb7⟩; obtain ⟨A7, c7, rfl, hc7, hnil7⟩ := own_slice hown7; have HX7 := Lib.hid (HXD.out.below hb7); have hal : Below w7.heap.size w7 (w7.alloc (.cells #[.int .i64 1, .slice A7 32 c7] 35)) := (Below.refl _ _).alloc (Nat.le_refl _) _; have HX8 := Lib.hid (HX7.out.below hal); have HL8 := Lib.hid (laid_one (tk := 35) (e := 1) hown7 hc7 hnil7 (keyOf_byt d 1) (by omega)); have hb8 := hb7.trans (hal.mono hb7.size); have HK8 := Lib.hid ((HK5.out.below hb8).more hb8.size); have b0 := (hb7.cell (p := ⟨G5, 0, none⟩) HG5.out).trans a0; have b1 := (hb7.cell (p := ⟨G5, 1, none⟩) HG5.out).trans a1; have b2 := HX7.out.nums.1; have d0 := (hb8.cell (p := ⟨G5, 0, none⟩) HG5.out).trans a0; have d1 := (hb8.cell (p := ⟨G5, 1, none⟩) HG5.out).trans a1; have d2 := HX8.out.nums.1; have HB8 := Lib.hid hb8; clear hown7 hb7 hc7 hnil7 hal hb8))
            | (go_at_call 10; go_loud (refine (refsame_yes kk A5 _ n5 c5 1 1 _ _ K5 _ _ HK8.out HL8.out HLS.out (Nat.le_refl _) (Nat.le_refl _) HL32.out.1 HL32.out.2).mono ?_; rintro e9 w9 ⟨rfl, hb9⟩; have HX9 := Lib.hid (HX8.out.below hb9); have hb10 := HB8.out.trans (hb9.mono HB8.out.size); have f0 := (hb10.cell (p := ⟨G5, 0, none⟩) HG5.out).trans a0; have f1 := (hb10.cell (p := ⟨G5, 1, none⟩) HG5.out).trans a1; have f2 := HX9.out.nums.1; clear hb9 hb10)))
          go_wp2_with fail
          go_meet
          exact HX9
      case rest =>
        clear HX6 HR6 HK6 HNO HCB
        have HX := Lib.hid hcut.out
        clear hcut
        have g0 := HX.out.ring.1
        have g1 := HX.out.ring.2
        have q1 := HX.out.nums.2
        have HKX : Hid (KRow wc wc.heap.size A n K) := (H.out.below HX.out.bel).more HX.out.bel.size
        go_wp2_with fail
        refine (hfind keep N1 A n c K wc HKX.out HNIL.out HC.out HSM.out HKE.out HN1.out).mono ?_
        rintro e7 w7 ⟨A7, n7, c7, rfl, hr7, hnil7, hnc7, hb7⟩
        have HX7 := Lib.hid (HX.out.below hb7)
        have HR7 := Lib.hid hr7
        clear hr7 hnil7 hnc7 hb7 g0 g1 q1
        have g0 := HX7.out.ring.1
        have g1 := HX7.out.ring.2
        have q1 := HX7.out.nums.2
        go_wp2_with fail
        refine (reffind_any keep N1 A n c w.heap.size K w7 (H.out.below HX7.out.bel) HX7.out.bel.size (by omega)).mono ?_
        rintro e8 w8 ⟨A8, n8, c8, rfl, hr8, hnil8, hnc8, hb8⟩
        have HX8 := Lib.hid (HX7.out.below hb8)
        have HR8 := Lib.hid hr8
        have HR78 := Lib.hid ((HR7.out.below hb8).more hb8.size)
        clear hr8 hnil8 hnc8 hb8 g0 g1 q1 HX HKX HR7
        obtain rfl : n7 = n8 := by rw [← HR78.out.len, ← HR8.out.len]
        have g1 := HX8.out.ring.2
        go_wp2_with fail
        have HXL : Hid (((fnd (ls K) N1).getD []).length = n7) := HR8.out.len
        have hx100 := fnd_len H.out HK100.out N1
        rw [HXL.out] at hx100
        obtain ⟨X, hX⟩ : ∃ X, X = (fnd (ls K) N1).getD [] := ⟨_, rfl⟩
        rw [← hX] at HR78 HR8
        clear HXL hX
        go_loopw [13, 15, 92] (fun v _ i wr => ∃ t : Nat, t ≤ n ∧ i = .int .i64 (t : Int) ∧ v = .int .i64 (now ((ls K).take t)) ∧ Hid (Below w8.heap.size w8 wr)) (fun _ _ i _ => n - (intOf i).toNat)
        case atStart => exact ⟨0, Nat.zero_le _, rfl, rfl, Lib.hid (Below.refl _ _)⟩
        case round =>
          obtain ⟨t, ht, rfl, rfl, HB⟩ := hrel
          have HXR := Lib.hid (HX8.out.below HB.out)
          by_cases hlt : t < n
          · obtain ⟨b, o, k, rfl, hbb, hk, hok, k0, k1⟩ := (H.out.below HXR.out.bel).at hlt
            have hlt' : (t : Int) < (n : Int) := by omega
            have HNX : Hid (now ((ls K).take (t + 1)) = k.e) := now_take (ls_at hk)
            clear hk hok
            obtain ⟨e, pA, pn, pc, xs⟩ := k
            simp only at k0 k1
            have HBA : Hid (Below w8.heap.size w8 (wr.alloc (.cells #[.int .i64 e, .slice pA pn pc] 35))) := HB.out.alloc HB.out.size _
            generalize now ((ls K).take t) = nt at *
            go_wp2
            go_roundw
            case rel => exact ⟨t + 1, by omega, by go_num, by rw [HNX.out], HBA⟩
            case measure => simp [intOf]; omega
          · obtain rfl : n = t := by omega
            have hfull : (ls K).take n = ls K := List.take_of_length_le (by rw [ls_len, H.out.len]; omega)
            rw [hfull]
            clear hfull
            have HS7 := Lib.hid ((HR78.out.below HB.out).more HB.out.size)
            have HS8 := Lib.hid ((HR8.out.below HB.out).more HB.out.size)
            have hx7 : n7 ≤ 4398046511104 := by omega
            clear HR78 HR8 HB HX8
            go_wp2_with fail
            refine (same_yes A7 A8 n7 c7 c8 _ _ X wr hx7 HS7.out HS8.out).mono ?_
            rintro e9 w9 ⟨rfl, q9, rfl⟩
            have HX9 := Lib.hid (HXR.out.below (below_drewN (q := q9) (Below.refl _ _)))
            generalize wr.drewN q9 = w9 at *
            clear HS7 HS8 HXR
            have g0 := HX9.out.ring.1
            have g1 := HX9.out.ring.2
            have HK9 := Lib.hid ((H.out.below HX9.out.bel).more HX9.out.bel.size)
            go_wp2_with fail
            refine (hnow keep A n c K w9 HK9.out HNIL.out HC.out HSM.out HKE.out).mono ?_
            rintro e10 w10 ⟨rfl, hb10⟩
            have HX10 := Lib.hid (HX9.out.below hb10)
            clear hb10 HK9 HX9 g0 g1
            have g0 := HX10.out.ring.1
            have g1 := HX10.out.ring.2
            have HK10 := Lib.hid ((H.out.below HX10.out.bel).more HX10.out.bel.size)
            have HD10 := Lib.hid ((HD.out.below HX10.out.bel).more HX10.out.bel.size)
            have HT10 := Lib.hid (HT.out.below HX10.out.bel HT.out.tab.1)
            obtain ⟨nw, hnw⟩ : ∃ nw, now (ls K) = nw := ⟨_, rfl⟩
            rw [hnw]
            have HNW := Lib.hid hnw
            clear hnw
            go_wp2_with fail
            refine (hrot keep A A' n c n' c' K d w10 HK10.out HNIL.out HC.out HSM.out HKE.out HD10.out HNIL'.out HC'.out HM'.out HDB.out HT10.out).mono ?_
            rintro e11 w11 hR
            obtain ⟨k11, A11, n11, c11, ee11, rfl, hb11, hno, htop, hyes⟩ := rotTo_form hR
            have hb12 : Below w10.heap.size w10 (w11.alloc (.cells #[.int .i64 k11, .slice A11 n11 c11] 24)) := hb11.alloc hb11.size _
            have HX12 := Lib.hid (HX10.out.below hb12)
            have HR12 : Hid ((w11.alloc (.cells #[.int .i64 k11, .slice A11 n11 c11] 24)).heap[w11.heap.size]? = some (.cells #[.int .i64 k11, .slice A11 n11 c11] 24 (0, 0))) := heap_alloc_new _ _
            have hb13 : Below w11.heap.size w11 (w11.alloc (.cells #[.int .i64 k11, .slice A11 n11 c11] 24)) := (Below.refl _ _).alloc (Nat.le_refl _) _
            have HK12 : Hid (RtP keep (ls K) ∧ d.length = 32 → now (ls K) ≠ 1048576 → ee11 = 0 ∧ k11 = keep ∧ ∃ K11, KRow (w11.alloc (.cells #[.int .i64 k11, .slice A11 n11 c11] 24)) (w11.alloc (.cells #[.int .i64 k11, .slice A11 n11 c11] 24)).heap.size A11 n11 K11 ∧ ls K11 = rot keep (ls K) d ∧ Small n11 K11) := fun h1 h2 => by
              obtain ⟨e1, e2, K11, e3, e4, e5, -⟩ := hyes h1 h2
              exact ⟨e1, e2, K11, (e3.below hb13).more hb13.size, e4, e5⟩
            have HNO12 := Lib.hid hno
            have HTOP12 := Lib.hid htop
            clear hR hno htop hyes hb11 hb12 hb13 g0 g1 HK10 HD10 HT10 HX10
            have g0 := HX12.out.ring.1
            have g1 := HX12.out.ring.2
            go_wp2_with fail
            generalize w11.heap.size = G11 at *
            generalize w11.alloc (.cells #[.int .i64 k11, .slice A11 n11 c11] 24) = w12 at *
            refine (refright_any keep A n c w.heap.size K w12 (H.out.below HX12.out.bel) HX12.out.bel.size (by omega)).mono ?_
            rintro e13 w13 ⟨rfl, hb13⟩
            have HX13 := Lib.hid (HX12.out.below hb13)
            have hlt11 : G11 < w12.heap.size := (Array.getElem?_eq_some_iff.1 HR12.out).1
            have hblk := (hb13.block G11 hlt11).trans HR12.out
            have x0 : w13.cell? ⟨G11, 0, none⟩ = some (.int .i64 k11) := cell_of_blk hblk rfl
            have x1 : w13.cell? ⟨G11, 1, none⟩ = some (.slice A11 n11 c11) := cell_of_blk hblk rfl
            have HL11 : Hid (G11 < w13.heap.size) := by have := hb13.size; unfold Hid; omega
            have HB13 := Lib.hid hb13
            clear hb13 hlt11 hblk HX12 g0 g1
            cases hrt : rt keep (ls K) with
            | false =>
              obtain ⟨rfl, rfl⟩ := HNO12.out (fun hh => by rw [rt_yes hh.1] at hrt; cases hrt)
              clear hrt
              go_wp2
              go_ret
              exact ⟨rfl, HX13.out.bel⟩
            | true =>
              have HRT := Lib.hid (rt_true.1 hrt)
              clear hrt
              by_cases g3 : n' = 32
              · have hd3 : ((n' : Int) != 32) = false := by rw [g3]; rfl
                have G3 := Lib.hid g3
                clear g3
                have HV : Hid (RtP keep (ls K) ∧ d.length = 32) := ⟨HRT.out, by rw [HDL.out]; exact G3.out⟩
                by_cases g4 : nw = 1048576
                · obtain ⟨rfl, rfl⟩ := HTOP12.out HV.out (HNW.out.trans g4)
                  subst g4
                  go_wp2
                  go_ret
                  exact ⟨rfl, HX13.out.bel⟩
                · have hd4 : (nw == 1048576) = false := beq_eq_false_iff_ne.2 g4
                  obtain ⟨rfl, rfl, K11, hk11, hls11, hsm11⟩ := HK12.out HV.out (by rw [HNW.out]; exact g4)
                  have G4 := Lib.hid g4
                  clear g4
                  have HXE := Lib.hid (HX13.out.below (Below.refl w13.heap.size w13).drew)
                  have HDE := Lib.hid ((HD.out.below HXE.out.bel).more HXE.out.bel.size)
                  have HKE2 := Lib.hid ((H.out.below HXE.out.bel).more HXE.out.bel.size)
                  have HK13 : Hid (KRow w13.drew w13.drew.heap.size A11 n11 K11) := ((hk11.below HB13.out).more HB13.out.size).below (Below.refl _ _).drew
                  have HLS := Lib.hid hls11
                  have HSM11 : Hid (n11 ≤ 4398046511104 ∧ ∀ k ∈ K11, k.p.n ≤ 4398046511104) := ⟨by have := hsm11.1; omega, fun k hk => by have := hsm11.2 k hk; omega⟩
                  have HLE : Hid (G11 < w13.drew.heap.size) := HL11.out
                  have a0 : w13.drew.cell? ⟨G11, 0, none⟩ = some (.int .i64 k11) := x0
                  have a1 : w13.drew.cell? ⟨G11, 1, none⟩ = some (.slice A11 n11 c11) := x1
                  have a2 := HXE.out.ring.1
                  have a3 := HXE.out.ring.2
                  clear hk11 hls11 hsm11 x0 x1 HK12 HNO12 HTOP12
                  go_wp2_with fail
                  go_region_held3 (fun wx => wx.cell? ⟨G11, 0, none⟩ = some (.int .i64 k11) ∧ wx.cell? ⟨G11, 1, none⟩ = some (.slice A11 n11 c11) ∧ wx.cell? ⟨w.heap.size, 0, none⟩ = some (.int .i64 k11) ∧ wx.cell? ⟨w.heap.size, 1, none⟩ = some (.slice A n c)) (first | exact ⟨a0, a1, a2, a3⟩ | exact ⟨b0, b1, b2, b3⟩ | exact ⟨d0, d1, d2, d3⟩) (first
                    | (go_at_call 17; go_loud (refine (refrotate_any k11 A A' n c n' c' K d w13.drew HKE2.out HRT.out HDE.out HNIL'.out (by omega) HDB.out).mono ?_; rintro e14 w14 ⟨v14, rfl, A14, n14, c14, K14, rfl, hk14, hls14, -, -, hb14⟩; have HX14 := Lib.hid (HXE.out.below hb14); have HK14 := Lib.hid hk14; have HLS14 := Lib.hid hls14; have HK15 := Lib.hid ((HK13.out.below hb14).more hb14.size); have b0 := (hb14.cell (p := ⟨G11, 0, none⟩) HLE.out).trans a0; have b1 := (hb14.cell (p := ⟨G11, 1, none⟩) HLE.out).trans a1; have b2 := HX14.out.ring.1; have b3 := HX14.out.ring.2; have HB14 := Lib.hid hb14; clear hk14 hls14 hb14))
                    | (go_at_call 10; go_loud (refine (refsame_yes k11 A11 A14 n11 c11 n14 c14 _ _ K11 K14 _ HK15.out HK14.out (HLS.out.trans HLS14.out.symm) (Nat.le_refl _) (Nat.le_refl _) HSM11.out.1 HSM11.out.2).mono ?_; rintro e15 w15 ⟨rfl, hb15⟩; have HX15 := Lib.hid (HX14.out.below hb15); have hb16 := HB14.out.trans (hb15.mono HB14.out.size); have d0 := (hb16.cell (p := ⟨G11, 0, none⟩) HLE.out).trans a0; have d1 := (hb16.cell (p := ⟨G11, 1, none⟩) HLE.out).trans a1; have d2 := HX15.out.ring.1; have d3 := HX15.out.ring.2; clear hb15 hb16)))
                  go_wp2
                  go_ret
                  exact ⟨rfl, HX15.out.bel⟩
              · have hd3 : ((n' : Int) != 32) = true := bne_iff_ne.2 (by omega)
                obtain ⟨rfl, rfl⟩ := HNO12.out (fun hh => by have := hh.2; rw [HDL.out] at this; exact g3 this)
                have G3 := Lib.hid g3
                clear g3
                go_wp2
                go_ret
                exact ⟨rfl, HX13.out.bel⟩
end Go.Proofs.YtdfmikamafbabaaDoor.Rg

/- Layer 9 (ring): the walk of the law on what is made and rotated. -/
namespace Go.Proofs.YtdfmikamafbabaaDoor.Rg
open Go.RowKit Slc Sha

/-- While rings are rotated: the ring's variable is block G. -/
structure Kr (w0 : World) (G : Nat) (keep : Int) (t : Nat) (w' : World) : Prop where
  ring : ∃ A n c K, w'.heap[G]? = some (.cells #[.int .i64 keep, .slice A n c] 24 (0, 0)) ∧ KRow w' w'.heap.size A n K ∧ NotIn G n A K ∧ RtP keep (ls K) ∧ now (ls K) ≤ (t : Int) + 1 ∧ (A = none → c = 0) ∧ n ≤ c
  bel : Below w0.heap.size w0 w'

theorem Kr.below {w0 w1 w2 : World} {G t t2 : Nat} {keep : Int} (h : Kr w0 G keep t w1) (hb : Below w1.heap.size w1 w2) (ht : t ≤ t2) : Kr w0 G keep t2 w2 := by
  obtain ⟨A, n, c, K, h1, h2, h3, h4, h5, h6, h7⟩ := h.ring
  exact ⟨⟨A, n, c, K, (hb.block G (Array.getElem?_eq_some_iff.1 h1).1).trans h1, (h2.below hb).more hb.size, h3, h4, by omega, h6, h7⟩, h.bel.trans (hb.mono h.bel.size)⟩
theorem kr_step {w0 w5 : World} {G t n c : Nat} {keep : Int} {A : Option Addr} {K : List Kp} {x y : Value} (hb : Below w0.heap.size w0 w5) (hR : w0.heap.size ≤ G) (hblk : w5.heap[G]? = some (.cells #[x, y] 24 (0, 0))) (hk : KRow w5 w5.heap.size A n K) (hni : NotIn G n A K) (hrt : RtP keep (ls K)) (hnw : now (ls K) ≤ (t : Int) + 1) (hnil : A = none → c = 0) (hnc : n ≤ c) :
    Kr w0 G keep t ((w5.setCell ⟨G, 0, none⟩ (.int .i64 keep)).setCell ⟨G, 1, none⟩ (.slice A n c)) := by
  have hO : Only (fun k => k = G) w5 ((w5.setCell ⟨G, 0, none⟩ (.int .i64 keep)).setCell ⟨G, 1, none⟩ (.slice A n c)) := (Only.setCell w5 ⟨G, 0, none⟩ _).trans (Only.setCell _ ⟨G, 1, none⟩ _) (fun i _ h => h)
  exact ⟨⟨A, n, c, K, set_blk (set_blk hblk), (hk.set hni hO (Nat.le_refl _)).more hO.size, hni, hrt, hnw, hnil, hnc⟩, (hb.setCell hR _).setCell hR _⟩

set_option maxHeartbeats 3200000 in
set_option maxRecDepth 100000 in
theorem keeps_walk (hright : RightOk) (hnow : NowOk) (hfind : FindOk) (hnew : NewOk) (hrot : RotateOk) (x : Nat) (A : Option Addr) (n c : Nat) (L : List Part) (w : World) (hx : x ≤ 255) (h : Prs w w.heap.size A n L) (hL : ∀ p ∈ L, p.n ≤ maxLen) (hT : Lay w) :
    Calls Tryd.prog 4 #[.int .u8 (x : Int), .slice A n c] w fun e w' => e = .returned (.bool true) ∧ Below w.heap.size w w' := by
  have H := Lib.hid h
  have HT := Lib.hid hT
  have HL := Lib.hid hL
  have HKB : Hid (-9223372036854775808 ≤ (x : Int) ∧ (x : Int) ≤ 9223372036854775807) := by unfold Hid; omega
  clear h hL hT
  go_enter Tryd.func4, Tryd.ntmps4
  go_wp2_with fail
  refine (awake_any hnew hrot hnow w HT.out).mono ?_
  rintro e1 w1 ⟨rfl, hb1⟩
  have HB1 := Lib.hid hb1
  clear hb1
  by_cases hbig : 30 < n
  · have hd : decide ((30 : Int) < (n : Int)) = true := by simp; omega
    go_wp2
    go_ret
    exact ⟨rfl, HB1.out⟩
  have hd0 : decide ((30 : Int) < (n : Int)) = false := by simp; omega
  by_cases h0 : n = 0
  · have hd1 : ((n : Int) == 0) = true := by rw [h0]; rfl
    go_wp2
    go_ret
    exact ⟨rfl, HB1.out⟩
  have hd1 : ((n : Int) == 0) = false := beq_eq_false_iff_ne.2 (by omega)
  have hn30 : n ≤ 30 := by omega
  obtain ⟨b, o, rfl, hbb, hcell⟩ := H.out.at_ (by omega)
  have hlen := H.out.len
  have HC := Lib.hid hcell
  have k0 := (HB1.out.cell (p := ⟨b, o + 0, none⟩) hbb).trans (hcell 0 (by omega))
  obtain ⟨p0, hp0⟩ : ∃ p, p = L[0]'(by omega) := ⟨_, rfl⟩
  rw [← hp0] at k0
  have hmem : p0 ∈ L := by rw [hp0]; exact List.getElem_mem _
  have hr0 := ((H.out.right p0 hmem).1.below HB1.out).more HB1.out.size
  have hnil0 := (H.out.right p0 hmem).2
  have hby0 := H.out.byt p0 hmem
  have hml0 := HL.out p0 hmem
  unfold Part.v at k0
  rw [Nat.add_zero] at k0
  have HNEW := Lib.hid (hnew (x : Int) p0.A p0.n p0.c p0.xs w1 hr0 hnil0 hby0.1 hml0 hby0.2 HKB.out (HT.out.below HB1.out HT.out.tab.1))
  obtain ⟨pA, pn, pc, pxs⟩ := p0
  have hlen' : Hid (L.length = n) := hlen
  clear hcell hr0 hnil0 hby0 hml0 hmem hp0 hlen
  go_wp2_with fail
  refine HNEW.out.mono ?_
  rintro e2 w2 hN
  by_cases hcond : (1 ≤ (x : Int) ∧ (x : Int) ≤ 16) ∧ pxs.length = 32
  · obtain ⟨A2, n2, c2, K2, rfl, hk2, hls2, -, hnil2, hnc2, hb2⟩ := hN.yes hcond
    have HB2 := Lib.hid (HB1.out.trans (hb2.mono HB1.out.size))
    have HKR0 : Hid (Kr w w2.heap.size x 0 (w2.alloc (.cells #[.int .i64 (x : Int), .slice A2 n2 c2] 24))) := by
      have hb3 : Below w2.heap.size w2 (w2.alloc (.cells #[.int .i64 (x : Int), .slice A2 n2 c2] 24)) := (Below.refl _ _).alloc (Nat.le_refl _) _
      exact ⟨⟨A2, n2, c2, K2, heap_alloc_new _ _, (hk2.below hb3).more hb3.size, hk2.notIn (Nat.le_refl _), by rw [hls2]; exact rt_one hcond.1 _, by rw [hls2]; exact Int.le_refl _, hnil2, hnc2⟩, HB2.out.alloc HB2.out.size _⟩
    have HG : Hid (w.heap.size ≤ w2.heap.size) := HB2.out.size
    have HX16 := Lib.hid hcond.1
    clear hk2 hls2 hnil2 hnc2 hb2 hN hcond HB1 HNEW k0
    go_wp2_with fail
    generalize w2.alloc (.cells #[.int .i64 (x : Int), .slice A2 n2 c2] 24) = w3 at *
    generalize w2.heap.size = G at *
    go_loopw [8, 9, 10, 12, 13, 14, 42] (fun _ _ _ _ _ _ i wr => ∃ t : Nat, t ≤ n ∧ i = .int .i64 (t : Int) ∧ Hid (Kr w G x t wr)) (fun _ _ _ _ _ _ i _ => n - (intOf i).toNat)
    case atStart => exact ⟨0, Nat.zero_le _, rfl, HKR0⟩
    case round =>
      obtain ⟨t, ht, rfl, HK⟩ := hrel
      obtain ⟨A1, n1, c1, K1, hblk, hk1, hni, hrt, hnw, hnil1, hnc1⟩ := HK.out.ring
      by_cases hlt : t < n
      · have hlt' : (t : Int) < (n : Int) := by omega
        have r0 : wr.cell? ⟨G, 0, none⟩ = some (.int .i64 (x : Int)) := cell_of_blk hblk rfl
        have r1 : wr.cell? ⟨G, 1, none⟩ = some (.slice A1 n1 c1) := cell_of_blk hblk rfl
        have kt := (HK.out.bel.cell (p := ⟨b, o + t, none⟩) hbb).trans (HC.out t (by have := hlen'.out; omega))
        obtain ⟨q0, hq0⟩ : ∃ p, p = L[t]'(by have := hlen'.out; omega) := ⟨_, rfl⟩
        rw [← hq0] at kt
        have hmem : q0 ∈ L := by rw [hq0]; exact List.getElem_mem _
        have hrq := ((H.out.right q0 hmem).1.below HK.out.bel).more HK.out.bel.size
        have hnilq := (H.out.right q0 hmem).2
        have hbyq := H.out.byt q0 hmem
        have hmlq := HL.out q0 hmem
        have hlq := hrq.len
        unfold Part.v at kt
        have HROT := Lib.hid (hrot (x : Int) A1 q0.A n1 c1 q0.n q0.c K1 q0.xs wr hk1 hnil1 hnc1 (small_of hk1 hrt) HKB.out hrq hnilq hbyq.1 hmlq hbyq.2 (HT.out.below HK.out.bel HT.out.tab.1))
        obtain ⟨qA, qn, qc, qxs⟩ := q0
        simp only at kt hlq
        have HBLK := Lib.hid hblk
        have HK1 := Lib.hid hk1
        have HNI := Lib.hid hni
        have HRT := Lib.hid hrt
        have HNW := Lib.hid hnw
        have HNIL1 := Lib.hid hnil1
        have HNC1 := Lib.hid hnc1
        have HLQ := Lib.hid hlq
        clear hblk hk1 hni hrt hnw hnil1 hnc1 hmem hrq hnilq hbyq hmlq hq0 hlq
        go_wp2_with fail
        refine HROT.out.mono ?_
        rintro e5 w5 hR
        by_cases hq32 : qn = 32
        · have hv : RtP (x : Int) (ls K1) ∧ qxs.length = 32 := ⟨HRT.out, HLQ.out.trans hq32⟩
          have hnt : now (ls K1) ≠ 1048576 := by have := HNW.out; omega
          obtain ⟨A2, n2, c2, K2, rfl, hk2, hls2, hfr2, hnil2, hnc2, hb5⟩ := hR.yes hv hnt
          have hrt2 : RtP (x : Int) (ls K2) := by rw [hls2]; exact rt_rot hv.1 (by have := now_le hv.1; omega) _
          have hnow2 : now (ls K2) = now (ls K1) + 1 := by rw [hls2, now_rot]
          have hn2 : 1 ≤ n2 := by have h1 := hrt2.2.2.1; rw [ls_len, hk2.len] at h1; exact h1
          have hba : Below w5.heap.size w5 (w5.alloc (.cells #[.int .i64 (x : Int), .slice A2 n2 c2] 24)) := (Below.refl _ _).alloc (Nat.le_refl _) _
          have HB6 : Hid (Below wr.heap.size wr (w5.alloc (.cells #[.int .i64 (x : Int), .slice A2 n2 c2] 24)).drew) := (hb5.trans (hba.mono hb5.size)).drew
          have HK26 : Hid (KRow (w5.alloc (.cells #[.int .i64 (x : Int), .slice A2 n2 c2] 24)).drew (w5.alloc (.cells #[.int .i64 (x : Int), .slice A2 n2 c2] 24)).drew.heap.size A2 n2 K2) := (hk2.below hba.drew).more hba.size
          have HG9 : Hid ((w5.alloc (.cells #[.int .i64 (x : Int), .slice A2 n2 c2] 24)).drew.heap[w5.heap.size]? = some (.cells #[.int .i64 (x : Int), .slice A2 n2 c2] 24 (0, 0))) := heap_alloc_new w5 _
          have HGL : Hid (G < wr.heap.size) := (Array.getElem?_eq_some_iff.1 HBLK.out).1
          have HNI2 : Hid (NotIn G n2 A2 K2) := hfr2.notIn HGL.out
          have HRT2 := Lib.hid hrt2
          have HLS2 := Lib.hid hls2
          have HN2 := Lib.hid hn2
          have HNIL2 := Lib.hid hnil2
          have HNC2 := Lib.hid hnc2
          obtain ⟨nw, hnw⟩ : ∃ nw, now (ls K1) = nw := ⟨_, rfl⟩
          rw [hnw] at hnow2
          have HNOW2 := Lib.hid hnow2
          have HNOW1 := Lib.hid hnw
          have hnb := now_le hv.1
          have hnb' := HNW.out
          rw [hnw] at hnb hnb'
          have m1 : IntKind.i64.wrap (nw + 1) = nw + 1 := IntWalk.i64_in _ ⟨by omega, by omega⟩
          have Q3 := Lib.hid hq32
          clear hR hk2 hls2 hfr2 hnil2 hnc2 hb5 hrt2 hnow2 hn2 hba hnw hv hnt hq32 r0 r1
          have HGB : Hid ((w5.alloc (.cells #[.int .i64 (x : Int), .slice A2 n2 c2] 24)).drew.heap[G]? = some (.cells #[.int .i64 (x : Int), .slice A1 n1 c1] 24 (0, 0))) := (HB6.out.block G HGL.out).trans HBLK.out
          have HK16 : Hid (KRow (w5.alloc (.cells #[.int .i64 (x : Int), .slice A2 n2 c2] 24)).drew (w5.alloc (.cells #[.int .i64 (x : Int), .slice A2 n2 c2] 24)).drew.heap.size A1 n1 K1) := (HK1.out.below HB6.out).more HB6.out.size
          have HBW6 := Lib.hid (HK.out.bel.trans (HB6.out.mono HK.out.bel.size))
          go_wp2_with fail
          generalize w5.heap.size = G9 at *
          generalize w5.alloc (.cells #[.int .i64 (x : Int), .slice A2 n2 c2] 24) = w6 at *
          obtain ⟨wD, hwD⟩ : ∃ wD, wD = w6.drew := ⟨_, rfl⟩
          rw [← hwD] at HB6 HK26 HG9 HGB HK16 HBW6
          have HRI : Hid (∀ wy, Below wD.heap.size wD wy → Calls Tryd.prog 7 #[.agg #[.int .i64 (x : Int), .slice A2 n2 c2]] wy fun e w' => e = .returned (.bool true) ∧ Below wy.heap.size wy w') := fun wy hy => by
            have h1 := hright (x : Int) A2 n2 c2 K2 wy ((HK26.out.below hy).more hy.size) HNIL2.out HNC2.out (small_of HK26.out HRT2.out) HKB.out
            rwa [rt_yes HRT2.out] at h1
          have HN2I : Hid (∀ wy, Below wD.heap.size wD wy → Calls Tryd.prog 15 #[.agg #[.int .i64 (x : Int), .slice A2 n2 c2]] wy fun e w' => e = .returned (.int .i64 (nw + 1)) ∧ Below wy.heap.size wy w') := fun wy hy => by
            have h1 := hnow (x : Int) A2 n2 c2 K2 wy ((HK26.out.below hy).more hy.size) HNIL2.out HNC2.out (small_of HK26.out HRT2.out) HKB.out
            rwa [HNOW2.out] at h1
          have HN1I : Hid (∀ wy, Below wD.heap.size wD wy → Calls Tryd.prog 15 #[.agg #[.int .i64 (x : Int), .slice A1 n1 c1]] wy fun e w' => e = .returned (.int .i64 nw) ∧ Below wy.heap.size wy w') := fun wy hy => by
            have h1 := hnow (x : Int) A1 n1 c1 K1 wy ((HK16.out.below hy).more hy.size) HNIL1.out HNC1.out (small_of HK16.out HRT.out) HKB.out
            rwa [HNOW1.out] at h1
          have HCE : Hid (∀ wy, Below wD.heap.size wD wy → wy.cell? ⟨G9, 0, none⟩ = some (.int .i64 (x : Int)) ∧ wy.cell? ⟨G9, 1, none⟩ = some (.slice A2 n2 c2) ∧ wy.cell? ⟨G, 0, none⟩ = some (.int .i64 (x : Int)) ∧ wy.cell? ⟨G, 1, none⟩ = some (.slice A1 n1 c1)) := fun wy hy => by
            have h1 := (hy.block G9 (Array.getElem?_eq_some_iff.1 HG9.out).1).trans HG9.out
            have h2 := (hy.block G (Array.getElem?_eq_some_iff.1 HGB.out).1).trans HGB.out
            exact ⟨cell_of_blk h1 rfl, cell_of_blk h1 rfl, cell_of_blk h2 rfl, cell_of_blk h2 rfl⟩
          have HYD := Lib.hid (Below.refl wD.heap.size wD)
          have a := HCE.out wD HYD.out
          have HWD := Lib.hid hwD
          rw [hwD] at a
          clear hwD
          go_region_held3 (fun wx => wx.cell? ⟨G9, 0, none⟩ = some (.int .i64 (x : Int)) ∧ wx.cell? ⟨G9, 1, none⟩ = some (.slice A2 n2 c2) ∧ wx.cell? ⟨G, 0, none⟩ = some (.int .i64 (x : Int)) ∧ wx.cell? ⟨G, 1, none⟩ = some (.slice A1 n1 c1)) (first | exact a | exact a7 | exact a8 | exact a9) (first
            | (go_at_call 7; go_loud (refine (HRI.out w6.drew (by rw [← HWD.out]; exact HYD.out)).mono ?_; rintro e7 w7 ⟨rfl, hb7⟩; rw [← HWD.out] at hb7; have HY7 := Lib.hid hb7; have a7 := HCE.out w7 hb7; clear hb7))
            | (go_at_call 15; (with_reducible refine (HN2I.out w7 HY7.out).mono ?_); rintro e8 w8 ⟨rfl, hb8⟩; have HY8 := Lib.hid (HY7.out.trans (hb8.mono HY7.out.size)); have a8 := HCE.out w8 HY8.out; clear hb8)
            | (go_at_call 15; (with_reducible refine (HN1I.out w8 HY8.out).mono ?_); rintro e9 w9 ⟨rfl, hb9⟩; have HY9 := Lib.hid (HY8.out.trans (hb9.mono HY8.out.size)); have a9 := HCE.out w9 HY9.out; clear hb9))
          obtain ⟨y0, y1, y2, y3⟩ := a9
          have HK29 := Lib.hid ((HK26.out.below HY9.out).more HY9.out.size)
          have HK19 := Lib.hid ((HK16.out.below HY9.out).more HY9.out.size)
          have HBW9 := Lib.hid (HBW6.out.trans (HY9.out.mono HBW6.out.size))
          have HG99 : Hid (w9.heap[G9]? = some (.cells #[.int .i64 (x : Int), .slice A2 n2 c2] 24 (0, 0))) := (HY9.out.block G9 (Array.getElem?_eq_some_iff.1 HG9.out).1).trans HG9.out
          have HGB9 : Hid (w9.heap[G]? = some (.cells #[.int .i64 (x : Int), .slice A1 n1 c1] 24 (0, 0))) := (HY9.out.block G (Array.getElem?_eq_some_iff.1 HGB.out).1).trans HGB.out
          clear a a7 a8 HRI HN2I HN1I HCE HYD HWD HY7 HY8 HY9 HK26 HK16 HG9 HGB HB6 HBW6 HROT HBLK HK1 HK
          obtain ⟨b2, o2, rfl, hbb2, -⟩ := HK29.out.at_ HN2.out
          have hn2 := HN2.out
          have hnc2 := HNC2.out
          have hn16 : n2 ≤ 16 := by have h1 := HRT2.out.2.2.2.1; have h2 := HRT2.out.2.1; rw [ls_len, HK29.out.len] at h1; omega
          have m2 : IntKind.i64.wrap ((n2 : Int) - 1) = (n2 : Int) - 1 := IntWalk.i64_in _ ⟨by omega, by omega⟩
          have p1 : (0 : Int) ≤ (n2 : Int) - 1 := by omega
          have p2 : (n2 : Int) - 1 ≤ (c2 : Int) := by omega
          have p3 : ((n2 : Int) - 1).toNat = n2 - 1 := by omega
          clear y0 y1 y2 y3
          have HPP := Lib.hid (And.intro m2 (And.intro p1 (And.intro p2 p3)))
          have y1 := cell_of_blk (j := 1) HG99.out rfl
          go_wp2_with fail
          clear m2 p1 p2 p3
          go_loopw [12, 13, 14, 76] (fun _ _ _ i wy => ∃ j : Nat, j ≤ n2 - 1 ∧ i = .int .i64 (j : Int) ∧ Hid (Below w9.heap.size w9 wy)) (fun _ _ _ i _ => (n2 - 1) - (intOf i).toNat)
          case atStart => exact ⟨0, Nat.zero_le _, rfl, Lib.hid (Below.refl _ _)⟩
          case round =>
            obtain ⟨j, hj, rfl, HB⟩ := hrel
            by_cases hjl : j < n2 - 1
            · have hj1 : (j : Int) < ((n2 - 1 : Nat) : Int) := by omega
              have hj2 : (j : Int) < (n2 : Int) - 1 := by omega
              obtain ⟨b3, o3, k, e1, hbb3, hk, hok, z0, z1⟩ := (HK29.out.below HB.out).at (j := j) (by omega)
              injection e1 with e1
              injection e1 with e1 e2
              subst e1 e2
              have hGB := (HB.out.block G (Array.getElem?_eq_some_iff.1 HGB9.out).1).trans HGB9.out
              obtain ⟨ke, kA, kn, kc, kxs⟩ := k
              simp only at z0 z1
              have hba : Below wr.heap.size wr (wr.alloc (.cells #[.int .i64 ke, .slice kA kn kc] 35)) := (Below.refl _ _).alloc (Nat.le_refl _) _
              have hb9a : Below w9.heap.size w9 (wr.alloc (.cells #[.int .i64 ke, .slice kA kn kc] 35)) := HB.out.trans (hba.mono HB.out.size)
              have hGBa := (hba.block G (Array.getElem?_eq_some_iff.1 hGB).1).trans hGB
              have u0 : (wr.alloc (.cells #[.int .i64 ke, .slice kA kn kc] 35)).cell? ⟨G, 0, none⟩ = some (.int .i64 (x : Int)) := cell_of_blk hGBa rfl
              have u1 : (wr.alloc (.cells #[.int .i64 ke, .slice kA kn kc] 35)).cell? ⟨G, 1, none⟩ = some (.slice A1 n1 c1) := cell_of_blk hGBa rfl
              have hfn : fnd (ls K1) ke = some kxs := by
                have h1 := ls_at hk
                rw [HLS2.out] at h1
                exact rot_keeps HRT.out qxs (by rw [← HLS2.out, ls_len, HK29.out.len]; omega) h1
              have HFI := Lib.hid (hfind (x : Int) ke A1 n1 c1 K1 (wr.alloc (.cells #[.int .i64 ke, .slice kA kn kc] 35)) ((HK19.out.below hb9a).more hb9a.size) HNIL1.out HNC1.out (small_of HK19.out HRT.out) HKB.out ⟨hok.lo, hok.hi⟩)
              have HFN := Lib.hid hfn
              have HRK := Lib.hid ((hok.right.1.below (hba.mono HB.out.size)).more hb9a.size)
              have hkn := hok.len
              simp only at hkn
              have hk32 : kxs.length = 32 := by
                have h1 := (HRT2.out.2.2.2.2 j _ (ls_at hk)).1
                exact h1
              have HKN := Lib.hid (And.intro hkn hk32)
              have hkc : (wr.alloc (.cells #[.int .i64 ke, .slice kA kn kc] 35)).cell? ⟨wr.heap.size, 1, none⟩ = some (.slice kA kn kc) := cell_of_blk (heap_alloc_new wr _) rfl
              have HKC := Lib.hid hkc
              have HSZ : Hid (wr.heap.size < (wr.alloc (.cells #[.int .i64 ke, .slice kA kn kc] 35)).heap.size) := by unfold Hid; simp
              have HB9A := Lib.hid hb9a
              clear hGB hGBa hba hb9a hfn hk hok hkn hk32 hkc
              go_wp2_with fail
              refine HFI.out.mono ?_
              rintro e10 w10 ⟨A10, n10, c10, rfl, hr10, -, -, hb10⟩
              rw [HFN.out] at hr10
              have hn10 : n10 = kn := by rw [← hr10.len]; exact HKN.out.1
              subst hn10
              rw [show (fnd (ls K1) ke).isSome = true by rw [HFN.out]; rfl]
              have v1 := (hb10.cell (p := ⟨wr.heap.size, 1, none⟩) HSZ.out).trans HKC.out
              have HR10 : Hid (Row .u8 w10 w10.heap.size A10 n10 kxs) := hr10
              have HRK10 := Lib.hid ((HRK.out.below hb10).more hb10.size)
              have HB10 := Lib.hid (HB9A.out.trans (hb10.mono HB9A.out.size))
              have hn42 : n10 ≤ 4398046511104 := by have h1 := HKN.out.1; have h2 := HKN.out.2; omega
              clear hr10 hb10 u0 u1
              go_wp2_with fail
              refine (same_yes A10 kA n10 c10 kc _ _ kxs w10 hn42 HR10.out HRK10.out).mono ?_
              rintro e11 w11 ⟨rfl, q11, rfl⟩
              have HB11 : Hid (Below w9.heap.size w9 (w10.drewN q11)) := below_drewN HB10.out
              generalize w10.drewN q11 = w11 at *
              go_wp2
              go_roundw
              case rel => exact ⟨j + 1, by omega, by go_num, HB11⟩
              case measure => simp [intOf]; omega
            · obtain rfl : j = n2 - 1 := by omega
              have hGB := (HB.out.block G (Array.getElem?_eq_some_iff.1 HGB9.out).1).trans HGB9.out
              have hG9 := (HB.out.block G9 (Array.getElem?_eq_some_iff.1 HG99.out).1).trans HG99.out
              have u0 : wr.cell? ⟨G, 0, none⟩ = some (.int .i64 (x : Int)) := cell_of_blk hGB rfl
              have u1 : wr.cell? ⟨G, 1, none⟩ = some (.slice A1 n1 c1) := cell_of_blk hGB rfl
              have u2 : wr.frozen? ⟨G, 0, none⟩ = false := free_of_blk hGB
              have u3 : wr.frozen? ⟨G, 1, none⟩ = false := free_of_blk hGB
              have v0 : wr.cell? ⟨G9, 0, none⟩ = some (.int .i64 (x : Int)) := cell_of_blk hG9 rfl
              have v1 : wr.cell? ⟨G9, 1, none⟩ = some (.slice (some ⟨b2, o2, none⟩) n2 c2) := cell_of_blk hG9 rfl
              have HST := Lib.hid (kr_step (t := t + 1) (HBW9.out.trans (HB.out.mono HBW9.out.size)) HG.out hGB ((HK29.out.below HB.out).more HB.out.size) HNI2.out HRT2.out (by rw [HNOW2.out]; omega) HNIL2.out HNC2.out)
              clear hGB hG9
              go_wp2
              go_roundw
              case rel => exact ⟨t + 1, by omega, by go_num, HST⟩
              case measure => simp [intOf]; omega
        · have hd3 : ((qn : Int) == 32) = false := beq_eq_false_iff_ne.2 (by omega)
          obtain ⟨kk, A2, c2, rfl, hb5⟩ := hR.no (fun hh => hq32 (HLQ.out.symm.trans hh.2))
          have HKN : Hid (Kr w G x (t + 1) (w5.alloc (.cells #[.int .i64 kk, .slice A2 0 c2] 24))) := HK.out.below (hb5.alloc hb5.size _) (by omega)
          have Q3 := Lib.hid hq32
          clear hR hb5 hq32
          go_wp2
          go_roundw
          case rel => exact ⟨t + 1, by omega, by go_num, HKN⟩
          case measure => simp [intOf]; omega
      · obtain rfl : n = t := by omega
        have r0 : wr.cell? ⟨G, 0, none⟩ = some (.int .i64 (x : Int)) := cell_of_blk hblk rfl
        have r1 : wr.cell? ⟨G, 1, none⟩ = some (.slice A1 n1 c1) := cell_of_blk hblk rfl
        have hle : n1 ≤ x := by have h1 := hrt.2.2.2.1; have h2 := hk1.len; rw [ls_len] at h1; omega
        have hd : decide ((n1 : Int) ≤ (x : Int)) = true := by simp; omega
        have HRI := Lib.hid (hright (x : Int) A1 n1 c1 K1 wr hk1 hnil1 hnc1 (small_of hk1 hrt) HKB.out)
        have HRY : Hid (rt (x : Int) (ls K1) = true) := rt_yes hrt
        have HGL : Hid (G < wr.heap.size) := (Array.getElem?_eq_some_iff.1 hblk).1
        have HBW := Lib.hid HK.out.bel
        clear hblk hk1 hni hrt hnw hnil1 hnc1 HK HKR0
        go_wp2_with fail
        refine HRI.out.mono ?_
        rintro e7 w7 ⟨rfl, hb7⟩
        rw [HRY.out]
        have s0 := (hb7.cell (p := ⟨G, 0, none⟩) HGL.out).trans r0
        have s1 := (hb7.cell (p := ⟨G, 1, none⟩) HGL.out).trans r1
        have HB7 := Lib.hid (HBW.out.trans (hb7.mono HBW.out.size))
        clear hb7 r0 r1
        go_wp2
        go_ret
        exact ⟨rfl, HB7.out⟩
  · obtain ⟨kk, A2, c2, rfl, hb2⟩ := hN.no hcond
    have HB2 := Lib.hid ((HB1.out.trans (hb2.mono HB1.out.size)).alloc (HB1.out.trans (hb2.mono HB1.out.size)).size (.cells #[.int .i64 kk, .slice A2 0 c2] 24))
    clear hb2 hN hcond
    go_wp2
    go_ret
    exact ⟨rfl, HB2.out⟩
end Go.Proofs.YtdfmikamafbabaaDoor.Rg

/- The last step of a law's row, over any program: a call that returned true and left all old memory as it was meets 'true; the input reads as it did'. -/
namespace Go.Proofs.YtdfmikamafbabaaDoor
open Go.ChangeShapes Go.WideShapes Go.ChangeAt Go.RowKit

section
variable {H : Type} {enc : TypeId × Value → H} {P : Program} {W W' : World}

theorem trodAll_stays (hl : laidOutB P = true) (hb : Below W.heap.size W W') : ∀ {ts : List TypeId} {vs : List Value} {ds : List (DataW H)} {ps : List MemPlace},
    ts.all (fun t => P.readableRec t && decide (t < P.types.size)) = true → DataW.TrodAll enc P W 0 (fun _ => true) true ts vs ds ps → (∀ x ∈ ps, x.block < W.heap.size) →
    DataW.TrodAll enc P W' 0 (fun b => decide (b < W.heap.size)) true ts vs ds ps
  | [], _, _, _, _, h, _ => by
    obtain ⟨rfl, rfl, rfl⟩ := trodAll_nil h
    exact trodAll_mk0
  | t :: ts, _, _, _, ht, h, hp => by
    obtain ⟨v, vs, d, ds, a, b, rfl, rfl, rfl, h1, h2⟩ := trodAll_cons h
    simp only [List.all_cons, Bool.and_eq_true, decide_eq_true_eq] at ht
    exact trodAll_cons_mk (Below.trod hl ht.1.1 ht.1.2 h1 hb (fun x hx => hp x (List.mem_append_left _ hx)))
      (trodAll_stays hl hb (by simpa using ht.2) h2 (fun x hx => hp x (List.mem_append_right _ hx)))

/-- A law's post: true came back, old memory is as it was. -/
theorem law_post {f : Func} {s : ChangeSpec} {tb : TypeId} {args : Array Value} {ds : List (DataW H)} {before : List MemPlace}
    (hl : laidOutB P = true) (hts : f.params.toList.all (fun t => P.readableRec t && decide (t < P.types.size)) = true) (hr : f.resultTypes = #[tb]) (htb : P.underlying tb = some .bool) (hv : s.vars = [])
    (hW : DataW.Whole enc P f.params.toList s.vars false W args.toList ds [] before) (hfn : s.fn H ds = { results := [.lit (.bool true)], args := ds }) (hb : Below W.heap.size W W') :
    s.post enc P f false true false false W args (.bool true) W' := by
  have hW' := hW
  obtain ⟨p, q, hA, hV, rfl, _, _⟩ := hW
  rw [hv] at hV
  obtain ⟨_, rfl⟩ := trodVars_none hV
  refine ⟨ds, [], p ++ [], [], p, [], hW', ?_, ?_, ?_, hb.frame _, fun h => by cases h⟩
  · rw [List.append_nil, hfn, hr]
    exact trodAll_cons_mk (shut_bool htb _) trodAll_mk0
  · rw [List.append_nil, hfn]
    exact trodAll_stays hl hb hts hA (fun x hx => hW'.lt x (List.mem_append_left _ hx))
  · rw [List.append_nil, hfn, hv]
    rfl
end

/-- What opening a slice of integers gives, as 'Row'. -/
theorem row_of_open {k : IntKind} {w : World} {a : Addr} {len : Nat} {zs : List Int} (hl : len ≤ zs.length) (hc : ∀ i, i < zs.length → w.cell? (a.add i) = some (.int k (zs.getD i 0))) : Row k w w.heap.size (some a) len (zs.take len) := by
  refine ⟨by simp; omega, fun hn => ?_⟩
  obtain ⟨b, o, rfl, hcell⟩ := ints_at hc (by omega)
  refine ⟨b, o, rfl, World.block_lt_of_cell? w _ (hcell 0 (by omega)), fun j hj => ?_⟩
  rw [hcell j (by omega)]
  simp [List.getD, hj]
end Go.Proofs.YtdfmikamafbabaaDoor

/- A law's arguments opened, over any program: a slice of integers as 'Row', an array of integers by value. -/
namespace Go.Proofs.YtdfmikamafbabaaDoor
open Go.ChangeShapes Go.WideShapes Go.ChangeAt Go.RowKit

section
variable {H : Type} {enc : TypeId × Value → H} {P : Program} {W : World} {base : Nat}

/-- A slice of integers that came in. -/
theorem open_row {t e : TypeId} {k : IntKind} {v : Value} {d : DataW H} {ps : List MemPlace} (ht : P.underlying t = some (.slice e)) (he : P.underlying e = some (.int k)) (hc : P.cellsOf e = 1)
    (hv : Value.okWide P W .any base t v) (h : DataW.Trod enc P W 0 (fun _ => true) true t v d ps) :
    ∃ A n c xs, v = .slice A n c ∧ Row k W W.heap.size A n xs ∧ (A = none → c = 0) ∧ ∀ x ∈ xs, (Lit.int k x).wf = true := by
  obtain ⟨a0, len, cap, rfl⟩ := okWide_slice ht hv
  obtain ⟨fuel, hf⟩ := h
  rcases open_ints ht he hc hf with ⟨hcs, hx⟩ | ⟨a, len', cap', zs, hcs, _, hl, hm, hz, hx, hcell, hwz⟩
  · simp [Value.cells] at hcs
    obtain ⟨rfl, rfl, rfl⟩ := hcs
    exact ⟨none, 0, 0, [], rfl, Row.none_, fun _ => rfl, by simp⟩
  · simp [Value.cells] at hcs
    obtain ⟨rfl, rfl, rfl⟩ := hcs
    exact ⟨some a, len, cap, zs.take len, rfl, row_of_open (by simp at hz; omega) hcell, (fun h => by cases h), fun x hx => hwz x (List.mem_of_mem_take hx)⟩

/-- The same, with its capacity. -/
theorem open_row2 {t e : TypeId} {k : IntKind} {v : Value} {d : DataW H} {ps : List MemPlace} (ht : P.underlying t = some (.slice e)) (he : P.underlying e = some (.int k)) (hc : P.cellsOf e = 1)
    (hv : Value.okWide P W .any base t v) (h : DataW.Trod enc P W 0 (fun _ => true) true t v d ps) :
    ∃ A n c xs, v = .slice A n c ∧ Row k W W.heap.size A n xs ∧ (A = none → c = 0) ∧ n ≤ c ∧ c ≤ maxLen ∧ ∀ x ∈ xs, (Lit.int k x).wf = true := by
  obtain ⟨a0, len, cap, rfl⟩ := okWide_slice ht hv
  obtain ⟨fuel, hf⟩ := h
  rcases open_ints ht he hc hf with ⟨hcs, hx⟩ | ⟨a, len', cap', zs, hcs, _, hl, hm, hz, hx, hcell, hwz⟩
  · simp [Value.cells] at hcs
    obtain ⟨rfl, rfl, rfl⟩ := hcs
    exact ⟨none, 0, 0, [], rfl, Row.none_, fun _ => rfl, Nat.le_refl _, Nat.zero_le _, by simp⟩
  · simp [Value.cells] at hcs
    obtain ⟨rfl, rfl, rfl⟩ := hcs
    exact ⟨some a, len, cap, zs.take len, rfl, row_of_open (by simp at hz; omega) hcell, (fun h => by cases h), hl, hm, fun x hx => hwz x (List.mem_of_mem_take hx)⟩

/-- The same, with the address's form. -/
theorem open_row3 {t e : TypeId} {k : IntKind} {v : Value} {d : DataW H} {ps : List MemPlace} (ht : P.underlying t = some (.slice e)) (he : P.underlying e = some (.int k)) (hc : P.cellsOf e = 1)
    (hv : Value.okWide P W .any base t v) (h : DataW.Trod enc P W 0 (fun _ => true) true t v d ps) :
    ∃ A n c xs, v = .slice A n c ∧ Row k W W.heap.size A n xs ∧ (A = none → c = 0) ∧ n ≤ c ∧ c ≤ maxLen ∧ (0 < c → ∃ b o, A = some ⟨b, o, none⟩) ∧ ∀ x ∈ xs, (Lit.int k x).wf = true := by
  obtain ⟨a0, len, cap, rfl⟩ := okWide_slice ht hv
  obtain ⟨fuel, hf⟩ := h
  rcases open_ints ht he hc hf with ⟨hcs, hx⟩ | ⟨a, len', cap', zs, hcs, _, hl, hm, hz, hx, hcell, hwz⟩
  · simp [Value.cells] at hcs
    obtain ⟨rfl, rfl, rfl⟩ := hcs
    exact ⟨none, 0, 0, [], rfl, Row.none_, fun _ => rfl, Nat.le_refl _, Nat.zero_le _, fun h => absurd h (by omega), by simp⟩
  · simp [Value.cells] at hcs
    obtain ⟨rfl, rfl, rfl⟩ := hcs
    refine ⟨some a, len, cap, zs.take len, rfl, row_of_open (by simp at hz; omega) hcell, (fun h => by cases h), hl, hm, fun h0 => ?_, fun x hx => hwz x (List.mem_of_mem_take hx)⟩
    obtain ⟨b, o, e, -⟩ := ints_at hcell (by simp at hz; omega)
    exact ⟨b, o, by rw [e]⟩

theorem mapM_mem {α β : Type} {f : α → Option β} : ∀ {L : List α} {ys : List β}, L.mapM f = some ys → ∀ i ∈ L, ∃ y, f i = some y
  | [], _, _, i, hi => by simp at hi
  | a :: L, ys, h, i, hi => by
    rw [List.mapM_cons] at h
    simp only [bind, Option.bind_eq_some_iff, pure, Option.some.injEq] at h
    obtain ⟨y, hy, ys', hys, _⟩ := h
    rcases List.mem_cons.1 hi with rfl | hi
    · exact ⟨y, hy⟩
    · exact mapM_mem hys i hi

/-- An array of integers that came in, by value. -/
theorem open_arr {t e : TypeId} {k : IntKind} {m : Nat} {v : Value} {d : DataW H} {ps : List MemPlace} (ht : P.underlying t = some (.array m e)) (he : P.underlying e = some (.int k)) (hc : P.cellsOf e = 1) (hct : P.cellsOf t = m)
    (hv : Value.okWide P W .any base t v) (h : DataW.Trod enc P W 0 (fun _ => true) true t v d ps) :
    ∃ xs : List Int, v = .agg (xs.map (Value.int k)).toArray ∧ xs.length = m ∧ ∀ x ∈ xs, (Lit.int k x).wf = true := by
  simp only [Value.okWide, ht] at hv
  obtain ⟨cs, rfl, hsz, _⟩ := hv
  rw [hct] at hsz
  obtain ⟨fuel, hf⟩ := h
  cases fuel with
  | zero => simp [DataW.trod] at hf
  | succ q =>
    rw [DataW.trod_step] at hf
    unfold DataW.trodStep at hf
    simp only [ht, Value.cells] at hf
    rw [if_pos (by rw [hct]; simpa using hsz)] at hf
    simp only [Option.map_eq_some_iff] at hf
    obtain ⟨ys, hy, _⟩ := hf
    have hall : ∀ i, i < m → ∃ a, cs.toList[i]? = some (.int k a) ∧ (Lit.int k a).wf = true := fun i hi => by
      obtain ⟨y, h1⟩ := mapM_mem hy i (by simpa using hi)
      obtain ⟨a, h2, _, h3⟩ := DataW.trod_int he h1
      refine ⟨a, ?_, h3⟩
      rw [hc, Nat.mul_one] at h2
      have h4 : i < cs.toList.length := by simpa [hsz] using hi
      rw [List.drop_eq_getElem_cons h4] at h2
      simp only [List.take_succ_cons, List.take_zero, List.cons.injEq, and_true] at h2
      rw [List.getElem?_eq_getElem h4, h2]
    have hl : cs.toList.length = m := by simpa using hsz
    have hxs : ∀ (L : List Value) (m : Nat), L.length = m → (∀ i, i < m → ∃ a, L[i]? = some (.int k a) ∧ (Lit.int k a).wf = true) → ∃ xs : List Int, L = xs.map (Value.int k) ∧ ∀ x ∈ xs, (Lit.int k x).wf = true := by
      intro L
      induction L with
      | nil => intro _ _ _; exact ⟨[], rfl, by simp⟩
      | cons u L ih =>
        intro m hm hA
        obtain ⟨a, h1, h2⟩ := hA 0 (by simp at hm; omega)
        obtain ⟨xs, h3, h4⟩ := ih (m - 1) (by simp at hm; omega) (fun i hi => by simpa using hA (i + 1) (by omega))
        simp at h1
        refine ⟨a :: xs, by simp [h1, h3], fun x hx => ?_⟩
        rcases List.mem_cons.1 hx with rfl | hx
        · exact h2
        · exact h4 x hx
    obtain ⟨xs, h1, h2⟩ := hxs _ _ hl hall
    refine ⟨xs, ?_, by rw [h1] at hl; simpa using hl, h2⟩
    rw [← h1]
theorem two_of {xs : List Int} (h : xs.length = 2) : ∃ x y, xs = [x, y] := by
  match xs, h with
  | [x, y], _ => exact ⟨x, y, rfl⟩
end
end Go.Proofs.YtdfmikamafbabaaDoor

/- Layer 7 (sha): the package's two tables, out of a row's condition on what they hold. -/
namespace Go.Proofs.YtdfmikamafbabaaDoor.Sha
open Go.ChangeShapes Go.WideShapes Go.ChangeAt Go.RowKit

def laid2 : List (String × DataW Unit) := [("viaticum/sha.initial", Rows.laid_viaticum_sha_initial), ("viaticum/sha.constants", Rows.laid_viaticum_sha_constants)]
theorem gIni : Tryd.prog.globalNamed "viaticum/sha.initial" = some 0 := by kernel_rfl
theorem gCon : Tryd.prog.globalNamed "viaticum/sha.constants" = some 1 := by kernel_rfl
theorem tIni : (Tryd.prog.globals[0]?).map (·.type) = some 66 := by kernel_rfl
theorem tCon : (Tryd.prog.globals[1]?).map (·.type) = some 74 := by kernel_rfl

/-- The door's own heap meets the condition. -/
theorem door_met (os : Os) (args : Array Value) : laidMetH Tryd.prog laid2 ((World.doorLaid Tryd.prog 400 os).forCall (fun _ _ => 0) ⟨#[], args, []⟩).memory :=
  laidMetH_of_parts3 (fuel := 8) (laidMet_of_run' 8 (by kernel_rfl) (by kernel_rfl)) (by kernel_rfl) (by kernel_rfl)

/-- An array of integers, read as a datum that is known: its cells. -/
theorem arr_of_trod {H : Type} {enc : TypeId × Value → H} {P : Program} {W : World} {base : Nat} {sp : Nat → Bool} {held : Bool} {fuel : Nat} {t e : TypeId} {k : IntKind} {m : Nat} {cs : List Value} {p : List MemPlace} {zs : List Int}
    (ht : P.underlying t = some (.array m e)) (he : P.underlying e = some (.int k)) (hc : P.cellsOf e = 1) (h : DataW.trod enc P W base sp held fuel t cs = some (.agg (zs.map fun z => .lit (.int k z)), p)) :
    ∀ j, j < zs.length → cs[j]? = some (.int k (zs.getD j 0)) := by
  obtain ⟨xs, f, rfl, hx, hl, hn, hel⟩ := DataW.trod_array ht h
  intro j hj
  simp only [Prod.mk.injEq, DataW.agg.injEq] at hx
  have hlen : xs.length = zs.length := by
    have := congrArg List.length hx.1
    simpa using this.symm
  have h1 := hel j (by omega)
  rw [List.getElem?_eq_getElem (by omega), hc, Nat.mul_one] at h1
  obtain ⟨z, h2, h3, -⟩ := DataW.trod_int he h1
  have h4 : (zs.map fun z => (DataW.lit (.int k z) : DataW H))[j]? = (xs.map (·.1))[j]? := by rw [hx.1]
  rw [List.getElem?_map, List.getElem?_map, List.getElem?_eq_getElem hj, List.getElem?_eq_getElem (by omega), h3] at h4
  simp only [Option.map_some, Option.some.injEq, DataW.lit.injEq, Lit.int.injEq, true_and] at h4
  have h5 : j < cs.length := by
    by_cases h6 : j < cs.length
    · exact h6
    · rw [List.drop_of_length_le (by omega)] at h2
      simp at h2
  rw [List.drop_eq_getElem_cons h5] at h2
  simp only [List.take_succ_cons, List.take_zero, List.cons.injEq, and_true] at h2
  rw [List.getElem?_eq_getElem h5, h2, ← h4]
  simp [List.getD, hj]

theorem ini_eq : (Rows.laid_viaticum_sha_initial : DataW Unit) = .agg ((hs.map wi).map fun z => .lit (.int .u32 z)) := by rfl
set_option maxRecDepth 100000 in
theorem con_eq : (Rows.laid_viaticum_sha_constants : DataW Unit) = .agg ((ks.map wi).map fun z => .lit (.int .u32 z)) := by rfl

/-- What the condition gives the walks. -/
theorem lay_of {W : World} (h : laidMetH Tryd.prog laid2 W) : Lay W := by
  rw [MakeChecks.laidMetH_plain _ _ _ (by kernel_rfl)] at h
  obtain ⟨ps, ⟨g0, t0, cs0, f0, p0, q0, hg0, ht0, hv0, hd0, ⟨g1, t1, cs1, f1, p1, q1, hg1, ht1, hv1, hd1, _, _⟩, _⟩, _, _⟩ := h
  obtain rfl := Option.some.inj (gIni.symm.trans hg0)
  obtain rfl := Option.some.inj (gCon.symm.trans hg1)
  obtain rfl := Option.some.inj (tIni.symm.trans ht0)
  obtain rfl := Option.some.inj (tCon.symm.trans ht1)
  rw [ini_eq] at hd0
  rw [con_eq] at hd1
  have h0 := arr_of_trod Tryd.underlying66 Tryd.underlying64 (by kernel_rfl) hd0
  have h1 := arr_of_trod Tryd.underlying74 Tryd.underlying64 (by kernel_rfl) hd1
  have c0 : ∀ j, W.cell? ⟨0, j, none⟩ = cs0[j]? := fun j => World.var?_cell hg0 hv0 j
  have c1 : ∀ j, W.cell? ⟨1, j, none⟩ = cs1[j]? := fun j => World.var?_cell hg1 hv1 j
  have hk : ∀ j, j < 64 → W.cell? ⟨1, j, none⟩ = some (.int .u32 (wi (wat ks j))) := fun j hj => by
    rw [c1, ← Array.getElem?_toList, h1 j (by simpa [ks] using hj)]
    have hl : j < ks.length := hj
    simp [wat, List.getD, List.getElem?_map, List.getElem?_eq_getElem hl]
  have hini : ∀ j v, (wv hs)[j]? = some v → W.cell? ⟨0, 0 + j, none⟩ = some v := by
    intro j v hv
    have hj : j < hs.length := by simpa [wv] using (List.getElem?_eq_some_iff.1 hv).1
    rw [Nat.zero_add, c0, ← Array.getElem?_toList, h0 j (by simpa using hj), ← hv]
    simp [wv, List.getD, List.getElem?_map, List.getElem?_eq_getElem hj]
  refine ⟨⟨?_, hk⟩, hini⟩
  have l1 := block_lt_of_cell (hk 0 (by omega))
  have l0 := block_lt_of_cell (hini 0 _ rfl)
  exact Nat.max_lt.2 ⟨l0, l1⟩
end Go.Proofs.YtdfmikamafbabaaDoor.Sha
