/- Lemmas that the proof stands on, in build order: ShaG. -/
import Derived.StillTailTactics
import Derived.Deep.MidRow
import Derived.Test.YtppbpmmfcoblmaaDoorJ24860438
import Derived.Test.YtppbpmmfcoblmaaDoorJ24e72b8
import Derived.Test.YtppbpmmfcoblmaaDoorJ94b8122
/- Layer 7 (sha): the program's schedule, as a contract. -/
namespace Go.Proofs.YtppbpmmfcoblmaaDoor.Sha
open Go.RowKit

attribute [local go_sem] wi_xor wi_and wi_or wi_add wi_shr3 wi_shr10 wi_com

/-- Four bytes joined. -/
theorem shl_or (a b i : Nat) (P : Nat) (hP : 2 ^ i = P) (hb : b < P) : a * P ||| b = a * P + b := by
  subst hP
  have := Nat.shiftLeft_add_eq_or_of_lt (b := b) (i := i) hb a
  rw [Nat.shiftLeft_eq] at this
  exact this.symm
set_option maxRecDepth 100000 in
theorem four_join (P Q R y0 y1 y2 y3 : Nat) (hP : P = 16777216) (hQ : Q = 65536) (hR : R = 256) (h1 : y1 < 256) (h2 : y2 < 256) (h3 : y3 < 256) : y0 * P ||| y1 * Q ||| y2 * R ||| y3 = ((y0 * 256 + y1) * 256 + y2) * 256 + y3 := by
  have pP : 2 ^ 24 = P := by rw [hP]
  have pQ : 2 ^ 16 = Q := by rw [hQ]
  have pR : 2 ^ 8 = R := by rw [hR]
  have b1 : y1 * Q < P := by subst hP hQ; omega
  have b2 : y2 * R < Q := by subst hR hQ; omega
  have b3 : y3 < R := by subst hR; omega
  have a1 := shl_or y0 (y1 * Q) 24 P pP b1
  have a2 := shl_or (y0 * 256 + y1) (y2 * R) 16 Q pQ b2
  have a3 := shl_or ((y0 * 256 + y1) * 256 + y2) y3 8 R pR b3
  have e2 : (y0 * 256 + y1) * Q = y0 * P + y1 * Q := by subst hP hQ; omega
  have e3 : ((y0 * 256 + y1) * 256 + y2) * R = y0 * P + y1 * Q + y2 * R := by subst hP hQ hR; omega
  rw [e2] at a2
  rw [e3] at a3
  rw [a1, a2, a3]
  clear a1 a2 a3 e2 e3 pP pQ pR b1 b2 b3
  subst hP hQ hR
  omega

theorem four_or (y0 y1 y2 y3 : Nat) (h0 : y0 < 256) (h1 : y1 < 256) (h2 : y2 < 256) (h3 : y3 < 256) : bits .or .u32 (bits .or .u32 (bits .or .u32 ((y0 : Int) * 16777216) ((y1 : Int) * 65536)) ((y2 : Int) * 256)) (y3 : Int) = wi (BitVec.ofNat 32 (((y0 * 256 + y1) * 256 + y2) * 256 + y3)) := by
  obtain ⟨P, hP⟩ : ∃ P : Nat, P = 16777216 := ⟨_, rfl⟩
  obtain ⟨Q, hQ⟩ : ∃ Q : Nat, Q = 65536 := ⟨_, rfl⟩
  obtain ⟨R, hR⟩ : ∃ R : Nat, R = 256 := ⟨_, rfl⟩
  have f := four_join P Q R y0 y1 y2 y3 hP hQ hR h1 h2 h3
  have l1 : y0 * P < 2 ^ 32 := by subst hP; omega
  have l2 : y1 * Q < 2 ^ 32 := by subst hQ; omega
  have l3 : y2 * R < 2 ^ 32 := by subst hR; omega
  have a1 : ((y0 : Int) * 16777216) = ((y0 * P : Nat) : Int) := by subst hP; omega
  have a2 : ((y1 : Int) * 65536) = ((y1 * Q : Nat) : Int) := by subst hQ; omega
  have a3 : ((y2 : Int) * 256) = ((y2 * R : Nat) : Int) := by subst hR; omega
  rw [a1, a2, a3]
  have g1 : y0 * P ||| y1 * Q < 2 ^ 32 := Nat.or_lt_two_pow l1 l2
  have g2 : y0 * P ||| y1 * Q ||| y2 * R < 2 ^ 32 := Nat.or_lt_two_pow g1 l3
  rw [u32_or_nat _ _ (by omega) (by omega), u32_or_nat _ _ (by omega) (by omega), u32_or_nat _ _ (by omega) (by omega), f]
  exact wi_of _ (by omega)
/-- Bytes as values. -/
def bv (l : List Int) : List Value := l.map (Value.int .u8)
/-- 64 words of which the first are given. -/
def fill (l : List Wd) : List Wd := l ++ List.replicate (64 - l.length) 0
theorem fill_len {l : List Wd} (h : l.length ≤ 64) : (fill l).length = 64 := by simp [fill]; omega
theorem fill_set {l : List Wd} (x : Wd) (h : l.length < 64) : ((wv (fill l)).toArray).setIfInBounds l.length (.int .u32 (wi x)) = (wv (fill (l ++ [x]))).toArray := by
  have e : 64 - l.length = (64 - (l ++ [x]).length) + 1 := by simp; omega
  unfold fill
  rw [e, List.replicate_succ]
  simp [wv]
theorem fill_full {l : List Wd} (h : l.length = 64) : fill l = l := by simp [fill, h]

theorem heap3 (w : World) (a b c : Obj) : (((w.alloc a).alloc b).alloc c).heap[w.heap.size + 1 + 1]? = some c := by
  have e : ((w.alloc a).alloc b).heap.size = w.heap.size + 1 + 1 := by simp
  rw [← e]
  exact heap_alloc_new _ _
theorem below_setRow {B g : Nat} {w w' : World} (h : Below B w w') (hg : B ≤ g) (cs : Array Value) : Below B w (w'.setRow g cs) :=
  ⟨h.os, h.tape, h.output, by rw [size_setRow]; exact h.size, fun i hi => (setRow_other w' g i cs (by omega)).trans (h.block i hi)⟩
/-- While the schedule is made: G the content's block. -/
structure Sch (w : World) (G : Nat) (L : List Int) (l : List Wd) (w' : World) : Prop where
  con : w'.heap[G]? = some (.cells (bv L).toArray 135 (0, 0))
  res : w'.heap[G + 1]? = some (.cells (wv (fill [])).toArray 150 (0, 0))
  arr : w'.heap[G + 1 + 1]? = some (.cells (wv (fill l)).toArray 150 (0, 0))
  bel : Below G w w'
  len : l.length ≤ 64
theorem Sch.byte {w w' : World} {G : Nat} {L : List Int} {l : List Wd} (h : Sch w G L l w') {j : Nat} (hj : j < L.length) : w'.cell? ⟨G, j, none⟩ = some (.int .u8 (L.getD j 0)) := by
  refine cell_of_blk h.con ?_
  simp [bv, List.getD, List.getElem?_eq_getElem hj]
theorem Sch.word {w w' : World} {G : Nat} {L : List Int} {l : List Wd} (h : Sch w G L l w') {j : Nat} (hj : j < l.length) : w'.cell? ⟨G + 1 + 1, j, none⟩ = some (.int .u32 (wi (wat l j))) := by
  refine cell_of_blk h.arr ?_
  have e : wv (fill l) = wv l ++ wv (List.replicate (64 - l.length) 0) := by simp [wv, fill]
  rw [List.getElem?_toArray, e, List.getElem?_append_left (by simpa [wv] using hj)]
  exact wv_at hj
theorem Sch.target {w w' : World} {G : Nat} {L : List Int} {l : List Wd} (h : Sch w G L l w') {j : Nat} (hj : j < 64) : (∃ x : Int, w'.cell? ⟨G + 1 + 1, j, none⟩ = some (.int .u32 x)) ∧ w'.frozen? ⟨G + 1 + 1, j, none⟩ = false := by
  have hl := fill_len h.len
  refine ⟨⟨wi (wat (fill l) j), cell_of_blk h.arr ?_⟩, free_of_blk h.arr⟩
  rw [List.getElem?_toArray]
  exact wv_at (by omega)
theorem Sch.drew {w w' : World} {G q : Nat} {L : List Int} {l : List Wd} (h : Sch w G L l w') : Sch w G L l (w'.drewN q) :=
  ⟨h.con, h.res, h.arr, ⟨h.bel.os, h.bel.tape, h.bel.output, h.bel.size, h.bel.block⟩, h.len⟩
theorem Sch.store {w w' : World} {G t : Nat} {L : List Int} {l : List Wd} (h : Sch w G L l w') (ht : l.length = t) (ht4 : t < 64) (x : Wd) : Sch w G L (l ++ [x]) (w'.setCell ⟨G + 1 + 1, t, none⟩ (.int .u32 (wi x))) := by
  subst ht
  refine ⟨?_, ?_, ?_, h.bel.setCell (by simp; omega) _, by simp; omega⟩
  · rw [heap_setCell_other _ _ _ _ (by simp; omega)]; exact h.con
  · rw [heap_setCell_other _ _ _ _ (by simp)]; exact h.res
  · rw [set_blk h.arr, fill_set x ht4]

set_option maxHeartbeats 1600000 in
set_option maxRecDepth 100000 in
theorem schedule_any (L : List Int) (hL : L.length = 64) (hb : ∀ x ∈ L, 0 ≤ x ∧ x ≤ 255) (w : World) :
    Calls Tryd.prog 108 #[.agg (bv L).toArray] w fun e w' => e = .returned (.agg (wv (sched 48 (words L 0 16))).toArray) ∧ Below w.heap.size w w' := by
  have HL := Lib.hid hL
  have HB := Lib.hid hb
  clear hL hb
  go_enter Tryd.func108, Tryd.ntmps108
  go_wp2
  have HW0 : Hid ((words L 0 16).length = 16) := words_len _ _ _
  have HX : Hid (Sch w w.heap.size L (words L 0 0) (((w.alloc (.cells (bv L).toArray 135)).alloc (.cells (wv (fill [])).toArray 150)).alloc (.cells (wv (fill [])).toArray 150))) :=
    ⟨by rw [heap_alloc_old _ _ (by simp; omega)]; exact heap_alloc2_old w _ _, by rw [heap_alloc_old _ _ (by simp)]; exact heap_alloc2_new w _ _, heap3 w _ _ _,
      (((Below.refl _ w).alloc (Nat.le_refl _) _).alloc (by simp) _).alloc (by simp; omega) _, by simp [words]⟩
  go_loopw [8] (fun i wr => ∃ t : Nat, t ≤ 16 ∧ i = .int .i64 (t : Int) ∧ Hid (Sch w w.heap.size L (words L 0 t) wr)) (fun i _ => 16 - (intOf i).toNat)
  case atStart => exact ⟨0, Nat.zero_le _, rfl, HX⟩
  case round =>
    obtain ⟨t, ht, rfl, HS⟩ := hrel
    by_cases hlt : t < 16
    · have hLn := HL.out
      obtain ⟨y0, e0, b0⟩ := byte_at HB.out (4 * t)
      obtain ⟨y1, e1, b1⟩ := byte_at HB.out (4 * t + 1)
      obtain ⟨y2, e2, b2⟩ := byte_at HB.out (4 * t + 2)
      obtain ⟨y3, e3, b3⟩ := byte_at HB.out (4 * t + 3)
      have k0 := HS.out.byte (j := 4 * t) (by omega)
      have k1 := HS.out.byte (j := 4 * t + 1) (by omega)
      have k2 := HS.out.byte (j := 4 * t + 2) (by omega)
      have k3 := HS.out.byte (j := 4 * t + 3) (by omega)
      rw [e0] at k0
      rw [e1] at k1
      rw [e2] at k2
      rw [e3] at k3
      obtain ⟨⟨x0, k4⟩, k5⟩ := HS.out.target (j := t) (by omega)
      have m0 : IntKind.i64.wrap (4 * (t : Int)) = 4 * (t : Int) := IntWalk.i64_in _ ⟨by omega, by omega⟩
      have m1 : IntKind.i64.wrap (4 * (t : Int) + 1) = 4 * (t : Int) + 1 := IntWalk.i64_in _ ⟨by omega, by omega⟩
      have m2 : IntKind.i64.wrap (4 * (t : Int) + 2) = 4 * (t : Int) + 2 := IntWalk.i64_in _ ⟨by omega, by omega⟩
      have m3 : IntKind.i64.wrap (4 * (t : Int) + 3) = 4 * (t : Int) + 3 := IntWalk.i64_in _ ⟨by omega, by omega⟩
      have p0 : (0 : Int) ≤ 4 * (t : Int) := by omega
      have p1 : (0 : Int) ≤ 4 * (t : Int) + 1 := by omega
      have p2 : (0 : Int) ≤ 4 * (t : Int) + 2 := by omega
      have p3 : (0 : Int) ≤ 4 * (t : Int) + 3 := by omega
      have q0 : 4 * (t : Int) < 64 := by omega
      have q1 : 4 * (t : Int) + 1 < 64 := by omega
      have q2 : 4 * (t : Int) + 2 < 64 := by omega
      have q3 : 4 * (t : Int) + 3 < 64 := by omega
      have n0 : (4 * (t : Int)).toNat = 4 * t := by omega
      have n1 : (4 * (t : Int) + 1).toNat = 4 * t + 1 := by omega
      have n2 : (4 * (t : Int) + 2).toNat = 4 * t + 2 := by omega
      have n3 : (4 * (t : Int) + 3).toNat = 4 * t + 3 := by omega
      have ht64 : (t : Int) < 64 := by omega
      have HV : Hid (Value.int .u32 (bits .or .u32 (bits .or .u32 (bits .or .u32 ((y0 : Int) * 16777216) ((y1 : Int) * 65536)) ((y2 : Int) * 256)) (y3 : Int)) = .int .u32 (wi (BitVec.ofNat 32 (four L (0 + 4 * t) 4)))) := by
        unfold Hid
        rw [four_or y0 y1 y2 y3 (by omega) (by omega) (by omega) (by omega)]
        congr 3
        simp only [four, Nat.zero_add, Nat.add_zero]
        rw [e0, e1, e2, e3]
        simp
      clear e0 e1 e2 e3 hLn
      go_wp2
      go_still_tail 31, (by kernel_rfl)
      go_wp2
      go_roundw
      case rel =>
        refine ⟨t + 1, by omega, by go_num, ?_⟩
        have hv := HV.out
        rw [hv]
        exact (HS.out.store (words_len _ _ _) (by omega) _).drew (q := 1)
      case measure => simp [intOf]; omega
    · obtain rfl : t = 16 := by omega
      have HS0 : Hid (Sch w w.heap.size L (sched (16 - 16) (words L 0 16)) wr) := HS.out
      clear HS HX ht hlt
      obtain ⟨W0, hW⟩ : ∃ W0, words L 0 16 = W0 := ⟨_, rfl⟩
      rw [hW] at HS0 HW0
      have HWE := Lib.hid hW
      clear hW
      go_wp2_with fail
      go_loopw [5, 6, 7] (fun i _ _ wr => ∃ t : Nat, 16 ≤ t ∧ t ≤ 64 ∧ i = .int .i64 (t : Int) ∧ Hid (Sch w w.heap.size L (sched (t - 16) W0) wr)) (fun i _ _ _ => 64 - (intOf i).toNat)
      case atStart => exact ⟨16, Nat.le_refl _, by omega, rfl, HS0⟩
      case round =>
        obtain ⟨t, ht, ht2, rfl, HS⟩ := hrel
        by_cases hlt : t < 64
        · have hlen := sched_len W0 (t - 16)
          have hw16 := HW0.out
          obtain ⟨l, hl⟩ : ∃ l, sched (t - 16) W0 = l := ⟨_, rfl⟩
          have hnext : sched (t + 1 - 16) W0 = l ++ [more l] := by rw [show t + 1 - 16 = (t - 16) + 1 by omega, sched, hl]
          rw [hl] at HS hlen
          have hll : l.length = t := by omega
          have hmo : more l = wat l (t - 16) + wat l (t - 7) + sg0 (wat l (t - 15)) + sg1 (wat l (t - 2)) := by
            unfold more
            rw [hll]
            ac_rfl
          have HMO := Lib.hid hmo
          have HNX := Lib.hid hnext
          have HLL := Lib.hid hll
          have k2 := HS.out.word (j := t - 2) (by omega)
          have k15 := HS.out.word (j := t - 15) (by omega)
          have c16 := HS.out.word (j := t - 16) (by omega)
          have c7 := HS.out.word (j := t - 7) (by omega)
          have HC := Lib.hid (And.intro c16 c7)
          obtain ⟨⟨x0, k4⟩, k5⟩ := HS.out.target (j := t) (by omega)
          have HT := Lib.hid (And.intro k4 k5)
          clear c16 c7 k4 k5 hl hlen hw16 hnext hll hmo
          have m2 : IntKind.i64.wrap ((t : Int) - 2) = (t : Int) - 2 := IntWalk.i64_in _ ⟨by omega, by omega⟩
          have m15 : IntKind.i64.wrap ((t : Int) - 15) = (t : Int) - 15 := IntWalk.i64_in _ ⟨by omega, by omega⟩
          have p2 : (0 : Int) ≤ (t : Int) - 2 := by omega
          have p15 : (0 : Int) ≤ (t : Int) - 15 := by omega
          have q2 : (t : Int) - 2 < 64 := by omega
          have q15 : (t : Int) - 15 < 64 := by omega
          have n2 : ((t : Int) - 2).toNat = t - 2 := by omega
          have n15 : ((t : Int) - 15).toNat = t - 15 := by omega
          have r2 : (2 : Int) ≤ (t : Int) := by omega
          have r15 : (15 : Int) ≤ (t : Int) := by omega
          go_wp2_with fail
          go_quiet (fail)
          have HS1 := Lib.hid (HS.out.drew (q := nq))
          have HC1 : Hid ((wr.drewN nq).cell? ⟨w.heap.size + 1 + 1, t - 16, none⟩ = some (.int .u32 (wi (wat l (t - 16)))) ∧ (wr.drewN nq).cell? ⟨w.heap.size + 1 + 1, t - 7, none⟩ = some (.int .u32 (wi (wat l (t - 7))))) := HC.out
          have HT1 : Hid ((wr.drewN nq).cell? ⟨w.heap.size + 1 + 1, t, none⟩ = some (.int .u32 x0) ∧ (wr.drewN nq).frozen? ⟨w.heap.size + 1 + 1, t, none⟩ = false) := HT.out
          clear HS HC HT k2 k15 m2 m15 p2 p15 q2 q15 n2 n15 r2 r15
          generalize wr.drewN nq = wx at HS1 HC1 HT1 ⊢
          have c16 := HC1.out.1
          have c7 := HC1.out.2
          have k4 := HT1.out.1
          have k5 := HT1.out.2
          have m2 : IntKind.i64.wrap ((t : Int) - 16) = (t : Int) - 16 := IntWalk.i64_in _ ⟨by omega, by omega⟩
          have m15 : IntKind.i64.wrap ((t : Int) - 7) = (t : Int) - 7 := IntWalk.i64_in _ ⟨by omega, by omega⟩
          have p2 : (0 : Int) ≤ (t : Int) - 16 := by omega
          have p15 : (0 : Int) ≤ (t : Int) - 7 := by omega
          have q2 : (t : Int) - 16 < 64 := by omega
          have q15 : (t : Int) - 7 < 64 := by omega
          have n2 : ((t : Int) - 16).toNat = t - 16 := by omega
          have n15 : ((t : Int) - 7).toNat = t - 7 := by omega
          have r2 : (16 : Int) ≤ (t : Int) := by omega
          have r15 : (7 : Int) ≤ (t : Int) := by omega
          have r0 : (0 : Int) ≤ (t : Int) := by omega
          have r1 : (t : Int) < 64 := by omega
          go_wp2_with fail
          refine wp_region_still_tail 29 (by kernel_rfl) (by kernel_rfl) ?_
          simp only [List.take_succ_cons, List.take_zero, List.drop_succ_cons, List.drop_zero]
          repeat (first | still_step | still_call (right_z _ _ (by decide) (by decide) _))
          try refine wpStill_nil ?_
          go_wp2
          go_roundw
          case rel =>
            have HZ := Lib.hid ((HS1.out.store HLL.out (by omega) (wat l (t - 16) + wat l (t - 7) + sg0 (wat l (t - 15)) + sg1 (wat l (t - 2)))).drew (q := 1))
            have HZ2 : Hid (Sch w w.heap.size L (sched (t + 1 - 16) W0) ((wx.setCell ⟨w.heap.size + 1 + 1, t, none⟩ (.int .u32 (wi (wat l (t - 16) + wat l (t - 7) + sg0 (wat l (t - 15)) + sg1 (wat l (t - 2)))))).drewN 1)) := by
              rw [HNX.out]
              have := HMO.out
              rw [← this] at HZ ⊢
              exact HZ.out
            (repeat apply Exists.intro); exact ⟨⟨t + 1, by omega, by omega, by go_num, HZ2⟩, rfl⟩
          case measure => simp [intOf]; omega
        · obtain rfl : t = 64 := by omega
          have hl : (sched (64 - 16) W0).length = 64 := by rw [sched_len, HW0.out]
          have hf := fill_full hl
          have hsz : (wv (sched 48 W0)).toArray.size = 64 := by rw [List.size_toArray, wv_len]; exact hl
          have hs0 : (wv (fill [])).toArray.size = 64 := by rw [List.size_toArray, wv_len]; exact fill_len (by simp)
          have hi : (Tryd.prog.info? 150).map (·.size) = some (wv (sched 48 W0)).toArray.size := by rw [hsz]; kernel_rfl
          have har := HS.out.arr
          rw [hf] at har
          have har' : wr.heap[w.heap.size + 1 + 1]? = some (.cells (wv (sched 48 W0)).toArray 150 (0, 0)) := har
          have HA := Lib.hid har'
          have HI := Lib.hid hi
          have HR := Lib.hid HS.out.res
          have HSZ := Lib.hid (hs0.trans hsz.symm)
          have HBE := Lib.hid HS.out.bel
          have h1 : (wv (sched 48 W0)).toArray.all (·.oneCell') = true := all_oneCell_toArray (fun v hv => by
            unfold wv at hv
            obtain ⟨x, _, rfl⟩ := List.mem_map.1 hv
            rfl)
          have H1 := Lib.hid h1
          clear hl hf hsz hs0 hi har har' HS ht ht2 hlt h1
          go_wp2_with (first
            | (with_reducible refine wpList_load_row rfl 150 (.tmp 3) rfl (w.heap.size + 1 + 1) rfl 150 (wv (sched 48 W0)).toArray (0, 0) _ HA.out Tryd.underlying150 rfl HI.out ?_)
            | (with_reducible refine wpList_store_row rfl 150 (.tmp 2) (.tmp 84) rfl (w.heap.size + 1) (wv (sched 48 W0)).toArray rfl rfl 150 _ HR.out HI.out HSZ.out H1.out ?_))
          refine bodyPost_ret (results_cell_row (g := w.heap.size + 1) rfl _ _ _ _ _ _ rfl (setRow_heap _ _ _ _ _ _ HR.out) Tryd.underlying150 rfl HI.out) rfl ⟨by rw [HWE.out], ?_⟩
          exact below_setRow HBE.out (by omega) _
end Go.Proofs.YtppbpmmfcoblmaaDoor.Sha
