/- Lemmas that the proof stands on, in build order: PtW PtN GfRh. -/
import Derived.Deep.DeepCutAuto
import Derived.StillTailTactics
import Derived.Test.YtdhlbcbgbmgcjaaJ10828d9b
import Derived.Test.YtdhlbcbgbmgcjaaJ774df6f
import Derived.Test.YtdhlbcbgbmgcjaaJ87d8111
import Derived.Test.YtdhlbcbgbmgcjaaJ97acb16
/- Layer 17 (path): the reference's Weight, as a contract. -/
namespace Go.Proofs.Ytdhlbcbgbmgcjaa.Pt
open Go.RowKit Rec Ints Ge Gf Pa

set_option maxHeartbeats 3200000 in
set_option maxRecDepth 100000 in
theorem refwy_any (N : Nt) (A A' : Option Addr) (n c m c' : Nat) (W : Option Addr) (k d : Nat) (way : List Int) (w : World) (h : NAt w w.heap.size N A n c A' m c') (hc : check N = 0) (hw : RRow intS w w.heap.size W k way) (hk : k ≤ 1048576) :
    Calls Try.prog 12 #[.agg #[.int .i64 N.ver, .slice A n c, .slice A' m c'], .slice W k d] w fun e w' => e = .returned (.tuple #[.int .i64 (wyT N way).1, .bool (wyT N way).2]) ∧ Below w.heap.size w w' := by
  have hv := valid_of hc
  have HV := Lib.hid hv
  have HB := Lib.hid (Bx.start h)
  have hls : N.st.length = n := h.st.len
  have hll : N.lk.length = m := h.lk.len
  have hm9 : m ≤ 1073741824 := by have := hv.nl; omega
  have hn9 : n ≤ 4096 := by have := hv.ns; omega
  have hwl : way.length = k := hw.1
  have HWL := Lib.hid hwl
  have HLS := Lib.hid hls
  have HW := Lib.hid (hw.below ((Below.refl w.heap.size w).alloc (Nat.le_refl _) (.cells #[.int .i64 N.ver, .slice A n c, .slice A' m c'] 25)))
  have hgw : w.heap.size < (w.alloc (.cells #[.int .i64 N.ver, .slice A n c, .slice A' m c'] 25)).heap.size := by simp
  clear h hc hv hw hls hll hwl
  go_enter Try.func12, Try.ntmps12
  go_upto_region 1 with fail
  generalize w.alloc (.cells #[.int .i64 N.ver, .slice A n c, .slice A' m c'] 25) = wA at *
  have z1 : wA.cell? ⟨w.heap.size, 1, none⟩ = some (.slice A n c) := cell_of_blk HB.out.blk rfl
  by_cases hk0 : k = 0
  · subst hk0
    have hT : wyT N way = (0, false) := wy_none (.inl (List.eq_nil_of_length_eq_zero HWL.out))
    have HT := Lib.hid hT
    clear hT
    have HBE := Lib.hid HB.out.bel
    go_quiet (fail)
    go_wp2
    go_ret2
    rw [HT.out]
    exact ⟨rfl, below_drewN HBE.out _⟩
  · have hkp : 0 < k := by omega
    obtain ⟨bw, ow, x0, rfl, hbw, hx0, hcx⟩ := int_at HW.out hkp
    have hcx' : wA.cell? ⟨bw, ow, none⟩ = some (.int .i64 x0) := hcx
    have e0 : ((k : Int) == 0) = false := beq_eq_false_iff_ne.2 (by omega)
    have hp0 : (0 : Int) < (k : Int) := by omega
    have hg0 : way.getD 0 0 = x0 := by rw [List.getD_eq_getElem?_getD, hx0]; rfl
    have hne : way ≠ [] := fun e => by have := HWL.out; rw [e] at this; simp at this; omega
    by_cases hlow : x0 < 0
    · have d1 : decide (x0 < 0) = true := decide_eq_true hlow
      have hT : wyT N way = (0, false) := wy_none (.inr (.inl (by rw [hg0]; exact hlow)))
      have HT := Lib.hid hT
      clear hT
      have HBE := Lib.hid HB.out.bel
      go_quiet (fail)
      go_wp2
      go_ret2
      rw [HT.out]
      exact ⟨rfl, below_drewN HBE.out _⟩
    · have d1 : decide (x0 < 0) = false := decide_eq_false hlow
      by_cases hhi : (n : Int) ≤ x0
      · have d2 : decide ((n : Int) ≤ x0) = true := decide_eq_true hhi
        have hT : wyT N way = (0, false) := wy_none (.inr (.inr (by rw [hg0, HLS.out]; exact hhi)))
        have HT := Lib.hid hT
        clear hT
        have HBE := Lib.hid HB.out.bel
        go_quiet (fail)
        go_wp2
        go_ret2
        rw [HT.out]
        exact ⟨rfl, below_drewN HBE.out _⟩
      · have d2 : decide ((n : Int) ≤ x0) = false := decide_eq_false hhi
        have HBAD : Hid (¬ (way = [] ∨ way.getD 0 0 < 0 ∨ (N.st.length : Int) ≤ way.getD 0 0)) := by
          unfold Hid
          rw [hg0, HLS.out]
          rintro (h | h | h)
          · exact hne h
          · exact hlow h
          · exact hhi h
        have HIN : Hid (0 ≤ way.getD 0 0 ∧ way.getD 0 0 < (N.st.length : Int)) := by unfold Hid; rw [hg0, HLS.out]; omega
        go_quiet (fail)
        have HB1 := Lib.hid (HB.out.below (below_drewN (Below.refl _ _) nq))
        have HW1 : Hid (RRow intS (wA.drewN nq) w.heap.size (some ⟨bw, ow, none⟩) k way) := HW.out.drewN nq
        generalize wA.drewN nq = wB at *
        clear hcx hcx' hx0 hg0 hne hlow hhi d1 d2 z1 HB HW e0
        go_wp2
        go_loopw [6, 7] (fun all i wr => ∃ j : Nat, j + 1 ≤ k ∧ i = .int .i64 (j : Int) ∧ all = .int .i64 (sm N.lk way j) ∧ Hid (Steps N.lk way j) ∧ Hid (RRow intS wr w.heap.size (some ⟨bw, ow, none⟩) k way) ∧ Hid (Bx w N A n c A' m c' wr))
          (fun _ i _ => k - (intOf i).toNat)
        case atStart => exact ⟨0, by omega, rfl, rfl, fun i hi => absurd hi (by omega), HW1, HB1⟩
        case round =>
          clear HW1 HB1
          obtain ⟨j, hj, rfl, rfl, HST, HW, HB⟩ := hrel
          have hwk : IntKind.i64.wrap ((j : Int) + 1) = (j : Int) + 1 := IntWalk.i64_in _ ⟨by omega, by omega⟩
          by_cases hjk : j + 1 < k
          · have e1 : decide ((j : Int) + 1 < (k : Int)) = true := decide_eq_true (by omega)
            obtain ⟨b1, o1, xa, hA1, _, hxa, hca⟩ := int_at HW.out (show j < k by omega)
            obtain ⟨b2, o2, xb, hA2, _, hxb, hcb⟩ := int_at HW.out hjk
            simp only [Option.some.injEq, Addr.mk.injEq] at hA1 hA2
            rw [← hA1.1, ← hA1.2.1] at hca
            rw [← hA2.1, ← hA2.2.1] at hcb
            clear hA1 hA2
            have hga : way.getD j 0 = xa := by rw [List.getD_eq_getElem?_getD, hxa]; rfl
            have hgb : way.getD (j + 1) 0 = xb := by rw [List.getD_eq_getElem?_getD, hxb]; rfl
            obtain ⟨wv, hwv⟩ : ∃ wv, wt N.lk xa xb = wv := ⟨_, rfl⟩
            have HSM : Hid (sm N.lk way (j + 1) = sm N.lk way j + wv) := by unfold Hid; rw [← hwv, ← hga, ← hgb]; rfl
            have HSN : Hid (wv ≠ 0 → Steps N.lk way (j + 1)) := fun h => steps_succ HST.out (by rw [hga, hgb, hwv]; exact h)
            have HSX : Hid (wv = 0 → ¬ Steps N.lk way (way.length - 1)) := fun h hs => hs j (by have := HWL.out; omega) (by rw [hga, hgb, hwv]; exact h)
            have hsb := steps_way HV.out HIN.out HST.out
            have hwb : wv = 0 ∨ (1 ≤ wv ∧ wv < 1048576) := by
              by_cases h0 : wv = 0
              · exact .inl h0
              · have h9 := wt_in HV.out (a := xa) (b := xb) (by rw [hwv]; exact h0)
                rw [hwv] at h9
                exact .inr ⟨h9.2.2.2.2.1, h9.2.2.2.2.2⟩
            have hm1 : IntKind.i64.wrap (sm N.lk way j + wv) = sm N.lk way j + wv := IntWalk.i64_in _ (by have h3 := hsb.2.1; have h4 := hsb.2.2.1; constructor <;> omega)
            have HRW := Lib.hid (refweight_any N A A' n c m c' xa xb)
            rw [hwv] at HRW
            go_upto_region 7 with fail
            obtain ⟨ι, hne, F, i0, h0, hF, hC⟩ := fam_of wr
            have hbl := HB.out.lt
            have y0 : ∀ i, (F i).cell? ⟨w.heap.size, 0, none⟩ = some (.int .i64 N.ver) := fun i => cell_of_blk (((hF i).block _ hbl).trans HB.out.blk) rfl
            have y1 : ∀ i, (F i).cell? ⟨w.heap.size, 1, none⟩ = some (.slice A n c) := fun i => cell_of_blk (((hF i).block _ hbl).trans HB.out.blk) rfl
            have y2 : ∀ i, (F i).cell? ⟨w.heap.size, 2, none⟩ = some (.slice A' m c') := fun i => cell_of_blk (((hF i).block _ hbl).trans HB.out.blk) rfl
            have y3 : ∀ i, (F i).cell? ⟨bw, ow + j, none⟩ = some (.int .i64 xa) := fun i => ((hF i).cell (by show bw < _; omega)).trans hca
            have y4 : ∀ i, (F i).cell? ⟨bw, ow + (j + 1), none⟩ = some (.int .i64 xb) := fun i => ((hF i).cell (by show bw < _; omega)).trans hcb
            have t1 : ((j : Int) + 1).toNat = j + 1 := by omega
            have g1 : (0 : Int) ≤ (j : Int) := by omega
            have g2 : (j : Int) < (k : Int) := by omega
            have g3 : (0 : Int) ≤ (j : Int) + 1 := by omega
            have g4 : (j : Int) + 1 < (k : Int) := by omega
            have HBF : ∀ i, Hid (Bx w N A n c A' m c' (F i)) := fun i => HB.out.below (hF i)
            have HWF : ∀ i, Hid (RRow intS (F i) w.heap.size (some ⟨bw, ow, none⟩) k way) := fun i => HW.out.below ((hF i).mono (by omega))
            clear hca hcb hxa hxb hga hgb hwv
            refine Mix.wp_region_lex (fun w' => ∃ i, w' = F i) (by kernel_rfl) (by kernel_rfl) ⟨i0, h0⟩ ?_
            rw [h0]
            clear h0 HB HW
            repeat (first | (refine Mix.lex_step rfl ?_; intro K hK; go_big_quiet_step (fail); refine Mix.lex_on hK ?_; clear hK K) | (refine Mix.lex_skip rfl ?_; simp only [Act.put, List.setIfInBounds_toArray, List.set_cons_zero, List.set_cons_succ]))
            refine Mix.lex_call (HRW.out (F i0) (((HBF i0).out.at_).more (HBF i0).out.bel.size) hm9) rfl rfl rfl (fun _ => rfl) ?_
            rintro e3 w3 ⟨rfl, hb3⟩
            obtain ⟨j3, rfl⟩ := hC _ w3 hb3
            clear hb3
            refine ⟨_, rfl, ⟨j3, rfl⟩, ?_⟩
            simp only [Act.put, List.setIfInBounds_toArray, List.set_cons_zero, List.set_cons_succ]
            repeat (first | (refine Mix.lex_step rfl ?_; intro K hK; go_big_quiet_step (fail); refine Mix.lex_on hK ?_; clear hK K) | (refine Mix.lex_skip rfl ?_; simp only [Act.put, List.setIfInBounds_toArray, List.set_cons_zero, List.set_cons_succ]))
            refine Mix.lex_nil ?_
            have HB9 := HBF j3
            have HW9 := HWF j3
            generalize F j3 = w9 at *
            by_cases hz : wv = 0
            · have ez : (wv == 0) = true := beq_iff_eq.2 hz
              have hT : wyT N way = (0, false) := wy_no (HSX.out hz)
              have HT := Lib.hid hT
              clear hT
              have HBE := Lib.hid HB9.out.bel
              subst hz
              go_wp2
              go_ret2
              rw [HT.out]
              exact ⟨rfl, HBE.out⟩
            · have ez : (wv == 0) = false := beq_eq_false_iff_ne.2 hz
              have HST2 := Lib.hid (HSN.out hz)
              go_wp2
              go_roundw
              case rel => exact ⟨j + 1, by omega, by go_num, by rw [HSM.out], HST2, HW9, HB9⟩
              case measure => simp [intOf]; omega
          · have e1 : decide ((j : Int) + 1 < (k : Int)) = false := decide_eq_false (by omega)
            have hj1 : way.length - 1 = j := by have := HWL.out; omega
            have hT : wyT N way = (sm N.lk way j, true) := by rw [wy_yes HBAD.out (by rw [hj1]; exact HST.out), hj1]
            have HT := Lib.hid hT
            clear hT
            have HBE := Lib.hid HB.out.bel
            go_wp2
            go_ret2
            rw [HT.out]
            exact ⟨rfl, HBE.out⟩
end Go.Proofs.Ytdhlbcbgbmgcjaa.Pt

/- Layer 17 (path): mathematics of ways, with the contracts that the laws ask. -/

/- Layer 15 (graph): what the reference's Parts keeps while it goes on. -/
namespace Go.Proofs.Ytdhlbcbgbmgcjaa.Gf
open Go.RowKit Rec Ints Ge

/-- A list as a function, itself beyond its end. -/
def rdF (xs : List Nat) : Nat → Nat := fun v => xs.getD v v
theorem rdF_at {xs : List Nat} {v x : Nat} (h : xs[v]? = some x) : rdF xs v = x := by unfold rdF; rw [List.getD_eq_getElem?_getD, h]; rfl
theorem rdF_range (n : Nat) : rdF (List.range n) = id := by
  funext v
  unfold rdF
  rw [List.getD_eq_getElem?_getD]
  rcases Nat.lt_or_ge v n with h | h
  · rw [List.getElem?_range h]; rfl
  · rw [List.getElem?_eq_none (by rw [List.length_range]; exact h)]; rfl
theorem rdF_set {xs : List Nat} {b y : Nat} (h : b < xs.length) : rdF (xs.set b y) = fun v => if v = b then y else rdF xs v := by
  funext v
  unfold rdF
  rw [List.getD_eq_getElem?_getD, List.getD_eq_getElem?_getD, List.getElem?_set]
  by_cases e : b = v
  · subst e; rw [if_pos rfl, if_pos h, if_pos rfl]; rfl
  · rw [if_neg e, if_neg (fun h => e h.symm)]
theorem pl_yes {xs : List Nat} {a b : Nat} (hb : b < xs.length) (h : rdF xs a < rdF xs b) : Gh.pl (rdF xs) a b = rdF (xs.set b (rdF xs a)) := by
  rw [rdF_set hb]
  funext v
  unfold Gh.pl
  by_cases e : v = b
  · rw [if_pos ⟨e, h⟩, if_pos e]
  · rw [if_neg (fun h => e h.1), if_neg e]
theorem pl_no {d : Nat → Nat} {a b : Nat} (h : ¬ d a < d b) : Gh.pl d a b = d := by
  funext v
  unfold Gh.pl
  rw [if_neg (fun h' => h h'.2)]
/-- One link: what it does to the list. -/
theorem plk_1 {xs : List Nat} {a b w : Nat} (hb : b < xs.length) (hab : a ≠ b) (h : rdF xs a < rdF xs b) : Gh.plk (rdF xs) (a, b, w) = rdF (xs.set b (rdF xs a)) := by
  unfold Gh.plk
  simp only
  rw [pl_yes hb h]
  refine pl_no ?_
  rw [rdF_set hb]
  simp only [if_true]
  rw [if_neg hab]
  exact Nat.lt_irrefl _
theorem plk_2 {xs : List Nat} {a b w : Nat} (ha : a < xs.length) (h : ¬ rdF xs a < rdF xs b) (h' : rdF xs b < rdF xs a) : Gh.plk (rdF xs) (a, b, w) = rdF (xs.set a (rdF xs b)) := by
  unfold Gh.plk
  simp only
  rw [pl_no h, pl_yes ha h']
theorem plk_3 {d : Nat → Nat} {a b w : Nat} (h : ¬ d a < d b) (h' : ¬ d b < d a) : Gh.plk d (a, b, w) = d := by
  unfold Gh.plk
  simp only
  rw [pl_no h, pl_no h']
theorem fold_more {L : List L3} {j : Nat} {l : L3} (h : L[j]? = some l) (d : Nat → Nat) : ((nlk L).take (j + 1)).foldl Gh.plk d = Gh.plk (((nlk L).take j).foldl Gh.plk d) (l.1.toNat, l.2.1.toNat, l.2.2.toNat) := by
  have e : (nlk L)[j]? = some (l.1.toNat, l.2.1.toNat, l.2.2.toNat) := by unfold nlk; rw [List.getElem?_map, h]; rfl
  rw [List.take_add_one, e, List.foldl_append]
  rfl
theorem fold_all {L : List L3} {n : Nat} (h : L.length = n) (d : Nat → Nat) : ((nlk L).take n).foldl Gh.plk d = Gh.pturn (nlk L) d := by
  rw [List.take_of_length_le (by unfold nlk; rw [List.length_map]; omega)]
  rfl
theorem parts_rd {N : Nt} {xs : List Nat} (hl : xs.length = N.st.length) (h : rdF xs = Gh.pturns (nlk N.lk) N.st.length id) : xs = partsT N := by
  refine List.ext_getElem? fun v => ?_
  rcases Nat.lt_or_ge v N.st.length with hv | hv
  · rw [parts_at hv, ← h, List.getElem?_eq_getElem (by omega)]
    exact congrArg some (rdF_at (List.getElem?_eq_getElem (by omega))).symm
  · rw [List.getElem?_eq_none (by omega), List.getElem?_eq_none (by rw [parts_len]; omega)]
theorem Bx.belowP {w w1 w2 : World} {N : Nt} {A A' : Option Addr} {n c m c' : Nat} (h : Bx w N A n c A' m c' w1) (hb : Below (w.heap.size + 1) w1 w2) : Bx w N A n c A' m c' w2 :=
  ⟨(hb.block _ (by omega)).trans h.blk, h.bel.trans (hb.mono (by omega)), h.at_.below (hb.mono (by omega))⟩
/-- What there is: the network, and the list in block g. -/
structure Pp (w : World) (N : Nt) (A : Option Addr) (n c : Nat) (A' : Option Addr) (m c' g cap : Nat) (xs : List Nat) (wr : World) : Prop where
  bx : Bx w N A n c A' m c' wr
  own : wr.ownsRow (w.heap.size + 1) 3 1 (.slice (some ⟨g, 0, none⟩) n cap) n (intS.flat (nums xs))
  len : xs.length = n
theorem flat_ints (l : List Int) : intS.flat l = l.map (Value.int .i64) := by
  induction l with
  | nil => rfl
  | cons a t ih => rw [flat_cons, ih]; rfl
theorem Pp.cell {w wr : World} {N : Nt} {A A' : Option Addr} {n c m c' g cap : Nat} {xs : List Nat} (h : Pp w N A n c A' m c' g cap xs wr) {i : Nat} (hi : i < n) : wr.cell? ⟨g, i, none⟩ = some (.int .i64 ((rdF xs i : Nat) : Int)) := by
  have hl := h.len
  rw [h.own.cellAt i (by omega), flat_ints, List.getElem?_map, nums, List.getElem?_map, List.getElem?_eq_getElem (by omega), rdF_at (List.getElem?_eq_getElem (by omega))]
  rfl
theorem Pp.lt {w wr : World} {N : Nt} {A A' : Option Addr} {n c m c' g cap : Nat} {xs : List Nat} (h : Pp w N A n c A' m c' g cap xs wr) : w.heap.size + 1 ≤ g ∧ g < wr.heap.size := h.own.lt g rfl
theorem Pp.alloc {w wr : World} {N : Nt} {A A' : Option Addr} {n c m c' g cap : Nat} {xs : List Nat} (h : Pp w N A n c A' m c' g cap xs wr) (o : Obj) : Pp w N A n c A' m c' g cap xs (wr.alloc o) :=
  ⟨h.bx.below ((Below.refl _ _).alloc (Nat.le_refl _) _), ownr_alloc h.own o, h.len⟩
theorem Pp.drewN {w wr : World} {N : Nt} {A A' : Option Addr} {n c m c' g cap : Nat} {xs : List Nat} (h : Pp w N A n c A' m c' g cap xs wr) (q : Nat) : Pp w N A n c A' m c' g cap xs (wr.drewN q) :=
  ⟨h.bx.below (below_drewN (Below.refl _ _) q), h.own, h.len⟩
theorem Bx.only {w w1 w2 : World} {N : Nt} {A A' : Option Addr} {n c m c' g : Nat} (h : Bx w N A n c A' m c' w1) (ho : Only (fun k => k = g) w1 w2) (hg : w.heap.size < g) : Bx w N A n c A' m c' w2 := by
  have hb := ho.below (B := w.heap.size) h.bel.size (fun k hk => by omega)
  exact ⟨ho.at h.blk (by omega), h.bel.trans hb, h.at_.below hb⟩
theorem Pp.set {w wr : World} {N : Nt} {A A' : Option Addr} {n c m c' g cap : Nat} {xs : List Nat} (h : Pp w N A n c A' m c' g cap xs wr) (i y : Nat) : Pp w N A n c A' m c' g cap (xs.set i y) (wr.setCell ⟨g, i, none⟩ (.int .i64 (y : Int))) := by
  have hg := h.lt
  refine ⟨h.bx.only (Only.setCell wr ⟨g, i, none⟩ (.int .i64 (y : Int))) (show w.heap.size < g by omega), ?_, by rw [List.length_set]; exact h.len⟩
  have h1 := (h.own.stored i (.int .i64 (y : Int))).1
  have e : intS.flat (nums (xs.set i y)) = (intS.flat (nums xs)).set i (.int .i64 (y : Int)) := by
    rw [flat_ints, flat_ints, nums, nums, List.map_set, List.map_set]
  rw [e]
  exact h1
theorem Pp.free {w wr : World} {N : Nt} {A A' : Option Addr} {n c m c' g cap : Nat} {xs : List Nat} (h : Pp w N A n c A' m c' g cap xs wr) (i : Nat) : wr.frozen? ⟨g, i, none⟩ = false := h.own.frozenAt i
end Go.Proofs.Ytdhlbcbgbmgcjaa.Gf
