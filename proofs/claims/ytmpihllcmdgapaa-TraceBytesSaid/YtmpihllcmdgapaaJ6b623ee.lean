/- Lemmas that the proof stands on, in build order: SmpU TrcU TrcL TrcG SmpE TrcA Shut Open OpenS SmpO. -/
import Derived.Lib.MinMax
import Derived.RegionTactic
import Derived.Deep.RegionHeld3
import Derived.WalkKit
import Derived.ProofKit
import Derived.OpenShut
import Derived.Carry
import Derived.JoinedCond
import Derived.Deep.Slices
import Derived.Deep.Fields
import Derived.Test.YtmpihllcmdgapaaRows
import Derived.Test.YtmpihllcmdgapaaJ13351f8
import Derived.Test.YtmpihllcmdgapaaJ2b065c4
import Derived.Test.YtmpihllcmdgapaaJ349813e
import Derived.Test.YtmpihllcmdgapaaJ557df74
/- Layer 5 (sample): the reference's Take, as a contract. -/
namespace Go.Proofs.Ytmpihllcmdgapaa.Smp
open Go.RowKit Var Fld

section
variable {g N n c at_ : Nat} {A : Option Addr} {bs xs : List Int} {w : World}
theorem refT (h : Rfr w g N A n c bs at_ 0) (hx : bs.drop at_ = xs) : Calls Try.prog 33 #[.pointer (some ⟨g, 0, none⟩), .int .i64 1099511627776] w fun r w' =>
    r = .returned (.int .i64 (tT xs)) ∧ (∃ at1, Rfr w' g N A n c bs at1 (r1 xs).2 ∧ bs.drop at1 = (r1 xs).1) ∧ Only (fun k => k = g) w w' := by
  have := refnum_any g N n c at_ 0 A bs 1099511627776 w h (by omega) (by omega)
  rw [hx] at this
  refine this.mono ?_
  rintro r w' ⟨a, ⟨at1, b, d⟩, e⟩
  rw [hx] at b d
  exact ⟨a, ⟨at1, b, d⟩, e⟩
theorem refX (h : Rfr w g N A n c bs at_ (r1 xs).2) (hx : bs.drop at_ = (r1 xs).1) : Calls Try.prog 59 #[.pointer (some ⟨g, 0, none⟩), .int .i64 67108864] w fun r w' =>
    r = .returned (.int .i64 (tX xs)) ∧ (∃ at1, Rfr w' g N A n c bs at1 (r2 xs).2 ∧ bs.drop at1 = (r2 xs).1) ∧ Only (fun k => k = g) w w' := by
  have := refsgn_any g N n c at_ (r1 xs).2 A bs 67108864 w h (by omega) (by omega)
  rw [hx] at this
  refine this.mono ?_
  rintro r w' ⟨a, ⟨at1, b, d⟩, e⟩
  rw [hx] at b d
  exact ⟨a, ⟨at1, b, d⟩, e⟩
theorem refY (h : Rfr w g N A n c bs at_ (r2 xs).2) (hx : bs.drop at_ = (r2 xs).1) : Calls Try.prog 59 #[.pointer (some ⟨g, 0, none⟩), .int .i64 67108864] w fun r w' =>
    r = .returned (.int .i64 (tY xs)) ∧ (∃ at1, Rfr w' g N A n c bs at1 (r3 xs).2 ∧ bs.drop at1 = (r3 xs).1) ∧ Only (fun k => k = g) w w' := by
  have := refsgn_any g N n c at_ (r2 xs).2 A bs 67108864 w h (by omega) (by omega)
  rw [hx] at this
  refine this.mono ?_
  rintro r w' ⟨a, ⟨at1, b, d⟩, e⟩
  rw [hx] at b d
  exact ⟨a, ⟨at1, b, d⟩, e⟩
end

/-- The reference's Take on its way. -/
structure USt (w0 w : World) (base g ga : Nat) (A : Option Addr) (n c : Nat) (bs : List Int) (acc : List S) (v : Value) (at_ : Nat) : Prop where
  rf : Rfr w g w0.heap.size A n c bs at_ 0
  la : w.heap[ga]? = some (.cells (las acc).cells 38 (0, 0))
  own : w.ownsRow base 38 3 v acc.length (flat acc)
  g1 : w0.heap.size ≤ g
  g2 : g < ga
  g3 : ga < base
  bs : base ≤ w.heap.size
  bel : Below w0.heap.size w0 w

theorem reftk_bd {bs : List Int} {q at_ : Nat} {acc : List S} (hb : ∀ x ∈ bs, 0 ≤ x ∧ x ≤ 255) (hat : at_ ≤ bs.length) (h : tk q [] bs = (acc, bs.drop at_, 0)) : at_ = (enc acc).length := by
  have := (tk_ok q [] bs hb good_nil (by rw [h])).2.2
  rw [h] at this
  have hl := congrArg List.length this
  simp [enc, encF] at hl
  have e : (enc acc).length = (encF zS acc).length := rfl
  omega

set_option maxHeartbeats 3200000 in
set_option maxRecDepth 100000 in
theorem reftake_any (A : Option Addr) (n c : Nat) (bs : List Int) (k : Int) (w : World) (h : Row .u8 w w.heap.size A n bs) (hnil : A = none → c = 0) (hnc : n ≤ c) (hn : n ≤ 4398046511104) (hbyt : ∀ x ∈ bs, 0 ≤ x ∧ x ≤ 255) :
    Calls Try.prog 34 #[.slice A n c, .int .i64 k] w (TakeTo bs k w) := by
  have H := Lib.hid h
  have HNIL := Lib.hid hnil
  have HN := Lib.hid hn
  have HNC := Lib.hid hnc
  have HY := Lib.hid hbyt
  clear h hnil hn hbyt hnc
  by_cases hbad : k < 0 ∨ 2048 < k
  · have he : tkE bs k = 3 := by unfold tkE; rw [if_pos hbad]
    by_cases h0 : k < 0
    · have hd0 : decide (k < 0) = true := decide_eq_true h0
      go_enter Try.func34, Try.ntmps34
      go_wp2
      go_ret3
      exact takeTo_no (e := 3) he (by omega) (Below.refl _ _)
    · have hd0 : decide (k < 0) = false := decide_eq_false h0
      have hd1 : decide (2048 < k) = true := decide_eq_true (by omega)
      go_enter Try.func34, Try.ntmps34
      go_wp2
      go_ret3
      exact takeTo_no (e := 3) he (by omega) (Below.refl _ _)
  · obtain ⟨q, rfl⟩ := Int.eq_ofNat_of_zero_le (show 0 ≤ k by omega)
    have hq : q ≤ 2048 := by omega
    have heE : tkE bs (q : Int) = (tk q [] bs).2.2 := by unfold tkE; rw [if_neg hbad]; rfl
    have HEE := Lib.hid heE
    clear heE hbad
    have hd0 : decide ((q : Int) < 0) = false := decide_eq_false (by omega)
    have hd1 : decide (2048 < (q : Int)) = false := decide_eq_false (by omega)
    go_enter Try.func34, Try.ntmps34
    go_wp2_with fail
    refine (refread_any A n c bs w.heap.size w H.out (Nat.le_refl _) HNC.out HNIL.out HN.out HY.out).mono ?_
    rintro e1 w1 ⟨rfl, hrf, hb1⟩
    have HRF := Lib.hid hrf
    have HB1 := Lib.hid hb1
    have hgl := hrf.lt
    clear hrf hb1
    go_wp2
    go_loopw [8, 10] (fun vo i wr => ∃ (m : Nat) (acc : List S) (at_ : Nat), m ≤ q ∧ i = .int .i64 (m : Int) ∧ acc.length = m ∧ Hid (good acc = true) ∧ Hid (USt w wr (w1.heap.size + 1) w.heap.size w1.heap.size A n c bs acc vo at_) ∧ Hid (tk (q - m) acc (bs.drop at_) = tk q [] bs)) (fun _ i _ => q - (intOf i).toNat)
    case atStart =>
      refine ⟨0, [], 0, Nat.zero_le _, rfl, rfl, rfl, ⟨HRF.out.only (M := fun _ => False) (Only.alloc _ _) (fun h => h) (fun _ _ h => h), heap_alloc_new w1 _, World.ownsRow_nil _ _ _ _, Nat.le_refl _, hgl, by omega, by simp, HB1.out.alloc HB1.out.size _⟩, rfl⟩
    case round =>
      obtain ⟨m, acc, at_, hm, rfl, hacc, HG, HU, HT⟩ := hrel
      by_cases hlt : m < q
      · have htk : tk (q - m) acc (bs.drop at_) = if (r3 (bs.drop at_)).2 ≠ 0 then ([], [], (r3 (bs.drop at_)).2) else if okp acc (nx acc (bs.drop at_)) = true then tk (q - (m + 1)) (acc ++ [nx acc (bs.drop at_)]) (r3 (bs.drop at_)).1 else ([], [], 2) := by
          rw [show q - m = (q - (m + 1)) + 1 by omega]
          rfl
        obtain ⟨xs, hx⟩ : ∃ xs, bs.drop at_ = xs := ⟨_, rfl⟩
        have hbx : ∀ y ∈ xs, 0 ≤ y ∧ y ≤ 255 := fun y hy => HY.out y (List.mem_of_mem_drop (by rw [hx]; exact hy))
        have HTK := Lib.hid (HT.out.symm.trans htk)
        rw [hx] at HTK
        have HX := Lib.hid hx
        have HBX := Lib.hid hbx
        have hmw : IntKind.i64.wrap ((m : Int) + 1) = (m : Int) + 1 := IntWalk.i64_in _ ⟨by omega, by omega⟩
        have HACC := Lib.hid hacc
        clear htk HT hx hbx hacc
        go_wp2_with fail
        refine (refT HU.out.rf HX.out).mono ?_
        rintro e2 w2 ⟨rfl, ⟨at1, hr1, hx1⟩, ho1⟩
        have HR1 := Lib.hid hr1
        have HX1 := Lib.hid hx1
        have HO1 := Lib.hid ho1
        clear hr1 hx1 ho1
        go_wp2_with fail
        refine (refX HR1.out HX1.out).mono ?_
        rintro e3 w3 ⟨rfl, ⟨at2, hr2, hx2⟩, ho2⟩
        have HR2 := Lib.hid hr2
        have HX2 := Lib.hid hx2
        have HO2 := Lib.hid (HO1.out.trans ho2 (fun _ _ h => h))
        clear hr2 hx2 ho2
        go_wp2_with fail
        refine (refY HR2.out HX2.out).mono ?_
        rintro e4 w4 ⟨rfl, ⟨at3, hr3, hx3⟩, ho3⟩
        have HR3 := Lib.hid hr3
        have HX3 := Lib.hid hx3
        have HO3 := Lib.hid (HO2.out.trans ho3 (fun _ _ h => h))
        have b2 := hr3.rf.c2
        have hg2 := HU.out.g2
        have hgb := HU.out.bs
        have HLA := Lib.hid (HO3.out.at HU.out.la (by omega))
        have HOW := Lib.hid (own3_only HU.out.own HO3.out (fun i hi h => by have := (own3_lt HU.out.own hi).1; omega))
        have HBE : Hid (Below w.heap.size w w4) := HU.out.bel.trans (HO3.out.below HU.out.bel.size (fun i hi => by omega))
        have hs4 := HO3.out.size
        clear hr3 hx3 ho3 HO1 HO2 HR1 HX1 HR2 HX2
        by_cases her : (r3 xs).2 = 0
        · have hez : (((r3 xs).2 : Int) == 0) = true := beq_iff_eq.2 (by omega)
          obtain ⟨-, t1, t2, t3, t4, t5, t6⟩ := trip_ok HBX.out her
          have hla : 0 ≤ (las acc).t ∧ (las acc).t ≤ 1099511627776 ∧ 0 ≤ (las acc).x ∧ (las acc).x < 67108864 ∧ 0 ≤ (las acc).y ∧ (las acc).y < 67108864 := by
            rcases las_may (l := acc) (fun u hu => good_may HG.out hu) with ha | ha
            · exact may_iff.1 ha
            · rw [ha]; unfold zS; simp
          obtain ⟨s, hs⟩ : ∃ s, nx acc xs = s := ⟨_, rfl⟩
          have v1 : IntKind.i64.wrap ((las acc).t + tT xs) = s.t := (IntWalk.i64_in _ ⟨by omega, by omega⟩).trans (by rw [← hs]; rfl)
          have v2 : IntKind.i64.wrap ((las acc).x + tX xs) = s.x := (IntWalk.i64_in _ ⟨by omega, by omega⟩).trans (by rw [← hs]; rfl)
          have v3 : IntKind.i64.wrap ((las acc).y + tY xs) = s.y := (IntWalk.i64_in _ ⟨by omega, by omega⟩).trans (by rw [← hs]; rfl)
          have hst : s.t = (las acc).t + tT xs := by rw [← hs]; rfl
          have HST := Lib.hid hst
          have HT0 := Lib.hid t1
          rw [hs, if_neg (by rw [her]; simp)] at HTK
          rw [her] at HR3 b2
          clear hla t1 t2 t3 t4 t5 t6 hst hs
          obtain ⟨⟨y0, y1, y2⟩, f0, f1, f2⟩ := three HLA.out
          obtain ⟨⟨g1, e1⟩, ⟨g2, e2⟩, hq, hO⟩ := sets (s := s) HLA.out
          obtain ⟨⟨z0, z1, z2⟩, -⟩ := three hq
          have HLA' := Lib.hid hq
          have HOW' := Lib.hid (own3_only HOW.out hO (fun i hi h => by have := (own3_lt HOW.out hi).1; omega))
          have HRF' := Lib.hid (HR3.out.only hO (by omega) (fun i hi => by omega))
          have HBE' : Hid (Below w.heap.size w (((w4.setCell ⟨w1.heap.size, 0, none⟩ (.int .i64 s.t)).setCell ⟨w1.heap.size, 1, none⟩ (.int .i64 s.x)).setCell ⟨w1.heap.size, 2, none⟩ (.int .i64 s.y))) := HBE.out.trans (hO.below HBE.out.size (fun i hi => by omega))
          have hs5 := hO.size
          clear hq hO
          go_wp2_with fail
          refine (refmay_on s _).mono ?_
          rintro e5 w5 ⟨rfl, hb5⟩
          have HLA5 := Lib.hid ((hb5.block _ (Array.getElem?_eq_some_iff.1 HLA'.out).1).trans HLA'.out)
          have HOW5 := Lib.hid (own3_only HOW'.out (M := fun _ => False) (Only.of_below hb5) (fun _ _ h => h))
          have HRF5 := Lib.hid (HRF'.out.only (M := fun _ => False) (Only.of_below hb5) (fun h => h) (fun _ _ h => h))
          have HBE5 := Lib.hid (HBE'.out.trans (hb5.mono HBE'.out.size))
          have hs6 := hb5.size
          have hs7 : w1.heap.size + 1 ≤ w5.heap.size := by omega
          clear hb5 HLA' HOW' HRF' HBE' y0 y1 y2 f0 f1 f2 g1 e1 g2 e2 z0 z1 z2 HLA HOW HR3 HBE hs4 hs5 hs6
          cases hms : may s with
          | false =>
            have hokp : okp acc s = false := by unfold okp; rw [hms]; rfl
            have he : tkE bs (q : Int) = 2 := by rw [HEE.out, HTK.out, if_neg (by rw [hokp]; simp)]
            go_wp2
            go_ret3
            exact takeTo_no (e := 2) he (by omega) HBE5.out
          | true =>
            by_cases hbad : m ≠ 0 ∧ tT xs = 0
            · have hk0 : 0 < m := by omega
              have hz2 : (tT xs == 0) = true := beq_iff_eq.2 hbad.2
              have hokp : okp acc s = false := by
                have := HST.out
                unfold okp
                rw [hms, HACC.out, decide_eq_false (show ¬ m = 0 by omega), decide_eq_false (show ¬ (las acc).t < s.t by omega)]
                rfl
              have he : tkE bs (q : Int) = 2 := by rw [HEE.out, HTK.out, if_neg (by rw [hokp]; simp)]
              go_wp2
              go_ret3
              exact takeTo_no (e := 2) he (by omega) HBE5.out
            · have hokp : okp acc s = true := by
                have := HST.out
                have := HT0.out
                unfold okp
                rw [hms, HACC.out]
                by_cases h0 : m = 0
                · simp [h0]
                · simp; omega
              have HOK := Lib.hid hokp
              obtain ⟨i0, hi, hz0, hz1, hz2⟩ := info_parts info_smp
              obtain ⟨⟨m0, m1, m2⟩, -⟩ := three HLA5.out
              obtain ⟨A', c', rfl, -⟩ := own3_slice HOW5.out
              have HDO1 : Hid ((w5.alloc (.cells #[.int .i64 s.t, .int .i64 s.x, .int .i64 s.y] 38)).ownsRow (w1.heap.size + 1) 38 3 (.slice A' acc.length c') acc.length (flat acc)) := own3_only HOW5.out (Only.alloc (M := fun _ => False) w5 _) (fun _ _ h => h)
              have HNEW := Lib.hid (new3 w5 s 38)
              have hl2 : acc.length ≤ 2048 := by have := HACC.out; omega
              clear hokp
              by_cases h0 : m = 0
              case' pos =>
                have hd2 : decide (0 < m) = false := decide_eq_false (by omega)
                clear hbad h0
                go_wp2_with (at_builtin; refine wpList_append_own _ rfl (.tmp 67) (.tmp 69) 22 rfl (w1.heap.size + 1) 38 i0 (.agg #[.int .i64 0, .int .i64 0, .int .i64 0]) 3 24 Try.underlying22 hi hz0 hz1 hz2 rfl (by decide) _ acc.length (flat acc) rfl HDO1.out ⟨w5.heap.size, 0, none⟩ 1 1 [.int .i64 s.t, .int .i64 s.x, .int .i64 s.y] rfl rfl HNEW.out (by intro u hu; simp at hu; rcases hu with rfl | rfl | rfl <;> rfl) (by unfold maxLen; omega) (by omega) (by simp; omega) ?_; intro v1 wA hown1 hgrow _; have HO1 := Lib.hid hown1; have HGR := Lib.hid hgrow; clear hown1 hgrow)
              case' neg =>
                have hk0 : 0 < m := by omega
                have hz3 : (tT xs == 0) = false := beq_eq_false_iff_ne.2 (by omega)
                clear hbad h0
                go_wp2_with (at_builtin; refine wpList_append_own _ rfl (.tmp 67) (.tmp 69) 22 rfl (w1.heap.size + 1) 38 i0 (.agg #[.int .i64 0, .int .i64 0, .int .i64 0]) 3 24 Try.underlying22 hi hz0 hz1 hz2 rfl (by decide) _ acc.length (flat acc) rfl HDO1.out ⟨w5.heap.size, 0, none⟩ 1 1 [.int .i64 s.t, .int .i64 s.x, .int .i64 s.y] rfl rfl HNEW.out (by intro u hu; simp at hu; rcases hu with rfl | rfl | rfl <;> rfl) (by unfold maxLen; omega) (by omega) (by simp; omega) ?_; intro v1 wA hown1 hgrow _; have HO1 := Lib.hid hown1; have HGR := Lib.hid hgrow; clear hown1 hgrow)
              all_goals
                have oA := Only.of_grown HGR.out
                have hvlt : ∀ i, (Value.slice A' acc.length c').ownBlock = some i → w1.heap.size + 1 ≤ i := fun i hi => (own3_lt HOW5.out hi).1
                have hb6 : Below w.heap.size w wA := (HBE5.out.alloc HBE5.out.size _).trans (oA.below (by simp; have := HBE5.out.size; omega) (fun i hi => by have := hvlt i hi; omega))
                have HU6 : Hid (USt w wA (w1.heap.size + 1) w.heap.size w1.heap.size A n c bs (acc ++ [s]) v1 at3) := by
                  refine ⟨(HRF5.out.only (M := fun _ => False) (Only.alloc _ _) (fun h => h) (fun _ _ h => h)).only oA (fun h => by have := hvlt _ h; omega) (fun i hi h => by have := hvlt i h; omega), ?_, ?_, HU.out.g1, HU.out.g2, HU.out.g3, Nat.le_trans hs7 (Nat.le_trans (by simp) oA.size), hb6⟩
                  · rw [las_snoc]
                    exact oA.at (alloc_old w5 _ HLA5.out) (fun h => by have := hvlt _ h; omega)
                  · rw [flat_snoc, List.length_append]
                    exact HO1.out
                have HT6 : Hid (tk (q - (m + 1)) (acc ++ [s]) (bs.drop at3) = tk q [] bs) := by
                  have := HTK.out
                  rw [if_pos HOK.out] at this
                  unfold Hid
                  rw [HX3.out]
                  exact this.symm
                clear oA hvlt hb6
                go_wp2
                go_roundw
                case' rel => exact ⟨m + 1, acc ++ [s], at3, by omega, by go_num, by simp [HACC.out], good_snoc HG.out HOK.out, HU6.out, HT6.out⟩
                case' measure => simp [intOf]; omega
        · have hez : (((r3 xs).2 : Int) == 0) = false := beq_eq_false_iff_ne.2 (by omega)
          have he : tkE bs (q : Int) = (r3 xs).2 := by rw [HEE.out, HTK.out, if_pos her]
          have HE := Lib.hid he
          have HER := Lib.hid her
          clear he her
          go_wp2_with fail
          go_quiet (fail)
          go_wp2
          go_ret3
          exact takeTo_no HE.out HER.out ⟨HBE.out.os, HBE.out.tape, HBE.out.output, HBE.out.size, HBE.out.block⟩
      · have hmq : m = q := by omega
        subst hmq
        have t1 := HU.out.rf.rf.c1
        go_wp2_with fail
        go_quiet (fail)
        go_wp2
        go_ret3
        have htk : tk m [] bs = (acc, bs.drop at_, 0) := by
          rw [← HT.out, Nat.sub_self]
          rfl
        have hat := reftk_bd HY.out (by rw [H.out.len]; exact HU.out.rf.le) htk
        have e1 : tkE bs (m : Int) = 0 := HEE.out.trans (by rw [htk])
        have e2 : tkL bs (m : Int) = acc := by unfold tkL; rw [if_pos e1, Int.toNat_natCast, htk]
        have e3 : tkN bs (m : Int) = at_ := by unfold tkN; rw [if_pos e1, Int.toNat_natCast, htk, hat]
        have hb := HU.out.bel
        refine ⟨u8, by rw [e1, e3]; rfl, ?_, ⟨hb.os, hb.tape, hb.output, hb.size, hb.block⟩⟩
        rw [e2]
        exact own3_base (own3_only HU.out.own (M := fun _ => False) ⟨rfl, rfl, rfl, Nat.le_refl _, fun _ _ _ => rfl⟩ (fun _ _ h => h)) (by have := HB1.out.size; omega)
end Go.Proofs.Ytmpihllcmdgapaa.Smp

/- Layer 6 (trace): the reference's Take, as a contract. -/
namespace Go.Proofs.Ytmpihllcmdgapaa.Trc
open Go.RowKit Var Fld Smp Frm Crc Slc

set_option maxHeartbeats 1600000 in
set_option maxRecDepth 100000 in
theorem reftake_any (A : Option Addr) (n c : Nat) (bs : List Int) (w : World) (h : Row .u8 w w.heap.size A n bs) (hnc : n ≤ c) (hn : n ≤ 4398046511104) (hc : c ≤ maxLen) (hbyt : ∀ x ∈ bs, 0 ≤ x ∧ x ≤ 255) :
    Calls Try.prog 10 #[.slice A n c] w (TakeTo bs w) := by
  have HW := Lib.hid (refwhole_any 1 A n c bs w h hbyt hn hnc hc)
  have hwl : (wholly 1 bs).1.length ≤ 1048576 := wholly_len 1 bs
  have HWB : Hid (Byt (wholly 1 bs).1) := wholly_byt hbyt
  obtain ⟨cs, er, HK⟩ : ∃ cs er, Hid (wholly 1 bs = (cs, er)) := ⟨_, _, Lib.hid rfl⟩
  have HT : Hid (trT bs = if er ≠ 0 then ([], er) else inner cs) := by unfold Hid trT; rw [HK.out]
  rw [HK.out] at HW HWB hwl
  clear h hn hc hnc hbyt
  go_enter Try.func10, Try.ntmps10
  go_wp2_with fail
  refine HW.out.mono ?_
  rintro e1 w1 ⟨A1, c1, rfl, hrow1, hb1, hf1⟩
  simp only at hrow1 hf1 hwl HWB
  have HB1 := Lib.hid hb1
  have HO1 := Lib.hid hrow1
  have HI1 := Lib.hid hf1.1
  have HC1 := Lib.hid hf1.2
  clear hrow1 hb1 HW hf1 HK
  by_cases he : er = 0
  case neg =>
    have hb1 : ((er : Int) == 0) = false := beq_eq_false_iff_ne.2 (by omega)
    have hb2 : ((er : Int) != 0) = true := by rw [bne, hb1]; rfl
    have HT' := Lib.hid (HT.out.trans (if_pos he))
    clear he HT
    go_wp2
    go_ret2
    exact takeTo_no HT'.out HB1.out
  case pos =>
    subst he
    have HT' := Lib.hid (HT.out.trans (if_neg (by simp)))
    clear HT
    obtain ⟨N, hN⟩ : ∃ N, cs.length = N := ⟨_, rfl⟩
    rw [hN] at hwl HO1 HC1 ⊢
    have HNN := Lib.hid hN
    clear hN
    go_wp2_with fail
    refine (refread_any A1 N c1 cs w1.heap.size w1 (HO1.out.more HB1.out.size) (Nat.le_refl _) HC1.out HI1.out (by omega) HWB.out).mono ?_
    rintro e2 w2 ⟨rfl, hrf2, hb2⟩
    have HR2 := Lib.hid hrf2
    have HB2 := Lib.hid hb2
    clear hrf2 hb2
    go_wp2_with fail
    refine (refnum_any w1.heap.size w1.heap.size N c1 0 0 A1 cs 2048 w2 HR2.out (by omega) (by omega)).mono ?_
    rintro e3 w3 ⟨rfl, ⟨at1, hrf3, hd3⟩, ho3⟩
    rw [List.drop_zero] at hrf3 hd3 ⊢
    have HR3 := Lib.hid hrf3
    have HB3 := Lib.hid (HB2.out.trans (ho3.below HB2.out.size (fun i hi => by omega)))
    have HD3 := Lib.hid hd3
    clear hrf3 ho3 HR2 HB2 hd3
    obtain ⟨x, sz, en, HX⟩ : ∃ x sz en, Hid (nxt cs 2048 = (x, sz, en)) := ⟨_, _, _, Lib.hid rfl⟩
    rw [HX.out] at HR3 HD3 ⊢
    have hat := HR3.out.le
    by_cases hen : en = 0
    case neg =>
      have hv : val 0 (x, sz, en) = 0 := by unfold val; rw [if_pos (.inr hen)]
      have ha : after cs 0 sz en = (cs, en) := after_er hen
      have hb1 : ((en : Int) == 0) = false := beq_eq_false_iff_ne.2 (by omega)
      have hb2 : ((en : Int) != 0) = true := by rw [bne, hb1]; rfl
      have hin : inner cs = ([], en) := by unfold inner; rw [HX.out]; exact if_pos hen
      have HT2 := Lib.hid (HT'.out.trans hin)
      rw [hv]
      simp only at HR3
      rw [ha] at HR3
      have c2 := HR3.out.rf.c2
      clear hen hv ha hin HT'
      go_wp2_with fail
      go_quiet (fail)
      go_wp2
      go_ret2
      have hb := HB1.out.trans (HB3.out.mono HB1.out.size)
      exact takeTo_no HT2.out ⟨hb.os, hb.tape, hb.output, hb.size, hb.block⟩
    case pos =>
      subst hen
      obtain ⟨x1, x2, x3, x4, x5⟩ := first_num HWB.out HX.out
      have hv : val 0 (x, sz, 0) = x := by unfold val; simp
      have ha : after cs 0 sz 0 = (cs.drop sz, 0) := after_ok
      have hin : inner cs = if tkE (cs.drop sz) x ≠ 0 then ([], tkE (cs.drop sz) x) else if tkN (cs.drop sz) x < (cs.drop sz).length then ([], 13) else (tkL (cs.drop sz) x, 0) := by unfold inner; rw [HX.out]; exact if_neg (by simp)
      have HT2 := Lib.hid (HT'.out.trans hin)
      rw [hv]
      simp only at HR3 HD3
      rw [ha] at HR3 HD3
      rw [HNN.out] at x4
      have hal : at1 = sz := by
        have := congrArg List.length HD3.out
        simp only [List.length_drop, HNN.out] at this
        omega
      subst hal
      have c1' := HR3.out.rf.c1
      have c2 := HR3.out.rf.c2
      clear hv ha hin HT' HX x5
      obtain ⟨b1, o1, rfl, -, -⟩ := HO1.out.cell_at (show 0 < N by omega)
      have hl := HC1.out
      have hrow : Row .u8 w3 w3.heap.size (some ⟨b1, o1 + at1, none⟩) (N - at1) (cs.drop at1) := by
        have h1 := ((HO1.out.more HB1.out.size).below HB3.out).more HB3.out.size
        have h2 := row_sub h1 (lo := at1) (m := N - at1) (by omega)
        rwa [List.take_of_length_le (by rw [List.length_drop, HNN.out]; exact Nat.le_refl _)] at h2
      have hby : ∀ x ∈ cs.drop at1, 0 ≤ x ∧ x ≤ 255 := fun y hy => HWB.out y (List.mem_of_mem_drop hy)
      have hdl : (cs.drop at1).length = N - at1 := hrow.len
      have P : Calls Try.prog 34 #[if c1 = at1 then .slice (some ⟨b1, o1, none⟩) (N - at1) 0 else .slice (some ⟨b1, o1 + at1, none⟩) (N - at1) (c1 - at1), .int .i64 x] w3 (Smp.TakeTo (cs.drop at1) x w3) := by
        by_cases hcs : c1 = at1
        · rw [if_pos hcs]
          exact Smp.reftake_any (some ⟨b1, o1, none⟩) (N - at1) 0 (cs.drop at1) x w3 ⟨hdl, fun h => absurd h (by omega)⟩ (fun h => nomatch h) (by omega) (by omega) hby
        · rw [if_neg hcs]
          exact Smp.reftake_any (some ⟨b1, o1 + at1, none⟩) (N - at1) (c1 - at1) (cs.drop at1) x w3 hrow (fun h => nomatch h) (by omega) (by omega) hby
      unfold Smp.TakeTo at P
      rw [hdl] at HT2
      have HP := Lib.hid P
      have HBY := Lib.hid hby
      have HDL := Lib.hid hdl
      clear P hrow hby hdl HWB HO1 HD3
      generalize cs.drop at1 = ds at HP HT2 HBY HDL
      by_cases hcs : c1 = at1
      case' pos =>
        rw [if_pos hcs] at HP
        go_wp2_with fail
      case' neg =>
        rw [if_neg hcs] at HP
        go_wp2_with fail
      all_goals
        refine HP.out.mono ?_
        rintro e6 w6 ⟨v6, rfl, hown6, hb6⟩
        have HO6 := Lib.hid hown6
        have HB6 := Lib.hid (HB1.out.trans ((HB3.out.trans (hb6.mono HB3.out.size)).mono HB1.out.size))
        have c1'' : w6.cell? ⟨w1.heap.size, 1, none⟩ = some (.int .i64 (at1 : Int)) := cell_of_blk ((hb6.block _ (Array.getElem?_eq_some_iff.1 HR3.out.rf.blk).1).trans HR3.out.rf.blk) rfl
        clear hown6 hb6 HP c1' c2 HR3
        by_cases hte : tkE ds x = 0
        case' neg =>
          have hb1 : ((tkE ds x : Int) == 0) = false := beq_eq_false_iff_ne.2 (by omega)
          have hb2 : ((tkE ds x : Int) != 0) = true := by rw [bne, hb1]; rfl
          have HT3 := Lib.hid (HT2.out.trans (if_pos hte))
          clear hte HT2
          go_wp2
          go_ret2
          exact takeTo_no HT3.out HB6.out
        case' pos =>
          have HT3 := Lib.hid (HT2.out.trans (if_neg (by rw [hte]; simp)))
          have hle := (again HBY.out hte).2.2.2.2.2
          rw [HDL.out] at hle
          have hsum : IntKind.i64.wrap ((at1 : Int) + (tkN ds x : Int)) = (at1 : Int) + (tkN ds x : Int) := IntWalk.i64_in _ ⟨by omega, by omega⟩
          rw [hte]
          clear hte HT2
          by_cases hlt : tkN ds x < N - at1
          case' pos =>
            have HT4 := Lib.hid (HT3.out.trans (if_pos hlt))
            have hlt' : (at1 : Int) + (tkN ds x : Int) < (N : Int) := by omega
            clear HT3
            first
              | (exfalso; omega)
              | (go_wp2
                 go_ret2
                 exact takeTo_no HT4.out HB6.out)
          case' neg =>
            have HT4 := Lib.hid (HT3.out.trans (if_neg hlt))
            have hlt' : ¬ (at1 : Int) + (tkN ds x : Int) < (N : Int) := by omega
            clear HT3
            go_wp2
            go_ret2
            unfold TakeTo
            rw [HT4.out]
            exact ⟨_, rfl, own3_base HO6.out (Nat.le_trans HB1.out.size HB3.out.size), HB6.out⟩
end Go.Proofs.Ytmpihllcmdgapaa.Trc

/- Layer 6 (trace): lengths and gaps: plain mathematics, and the small callees as contracts. -/
namespace Go.Proofs.Ytmpihllcmdgapaa.Trc
open Go.RowKit Var Fld Smp

/-- One step's length; a stretch's; its greatest gap. -/
def dif (a b : Int) : Int := max a b - min a b
def stp (a s : S) : Int := max (dif s.x a.x) (dif s.y a.y)
def nth (l : List S) (k : Nat) : S := l.getD k zS
def len (l : List S) : Nat → Int
  | 0 => 0
  | k + 1 => len l k + stp (nth l k) (nth l (k + 1))
def gap (l : List S) : Nat → Int
  | 0 => 0
  | k + 1 => max (gap l k) ((nth l (k + 1)).t - (nth l k).t)
theorem nth_of {l : List S} {k : Nat} {s : S} (h : l[k]? = some s) : nth l k = s := by unfold nth; simp [List.getD, h]

theorem dif_bd {a b : Int} (h1 : 0 ≤ a) (h2 : a < 67108864) (h3 : 0 ≤ b) (h4 : b < 67108864) : 0 ≤ dif a b ∧ dif a b < 67108864 := by unfold dif; omega
theorem nth_may {l : List S} (h : ∀ s ∈ l, may s = true) (k : Nat) : may (nth l k) = true ∨ nth l k = zS := by
  cases hk : l[k]? with
  | none => exact .inr (by unfold nth; simp [List.getD, hk])
  | some s => exact .inl (by rw [nth_of hk]; exact h s (List.mem_of_getElem? hk))
theorem nth_bd {l : List S} (h : ∀ s ∈ l, may s = true) (k : Nat) : 0 ≤ (nth l k).t ∧ (nth l k).t ≤ 1099511627776 ∧ 0 ≤ (nth l k).x ∧ (nth l k).x < 67108864 ∧ 0 ≤ (nth l k).y ∧ (nth l k).y < 67108864 := by
  rcases nth_may h k with h1 | h1
  · exact may_iff.1 h1
  · rw [h1]; unfold zS; simp
theorem len_bd {l : List S} (h : ∀ s ∈ l, may s = true) : ∀ k : Nat, 0 ≤ len l k ∧ len l k ≤ 67108864 * (k : Int)
  | 0 => by simp [len]
  | k + 1 => by
    have ih := len_bd h k
    have a := nth_bd h k
    have b := nth_bd h (k + 1)
    have d1 := dif_bd (a := (nth l (k + 1)).x) (b := (nth l k).x) (by omega) (by omega) (by omega) (by omega)
    have d2 := dif_bd (a := (nth l (k + 1)).y) (b := (nth l k).y) (by omega) (by omega) (by omega) (by omega)
    have e : len l (k + 1) = len l k + stp (nth l k) (nth l (k + 1)) := rfl
    rw [e]
    unfold stp
    omega
theorem gap_bd {l : List S} (h : ∀ s ∈ l, may s = true) : ∀ k : Nat, 0 ≤ gap l k ∧ gap l k ≤ 1099511627776
  | 0 => by simp [gap]
  | k + 1 => by
    have ih := gap_bd h k
    have a := nth_bd h k
    have b := nth_bd h (k + 1)
    have e : gap l (k + 1) = max (gap l k) ((nth l (k + 1)).t - (nth l k).t) := rfl
    rw [e]
    omega
/-- Two stretches that share a sample. -/
theorem nth_take {l : List S} {m k : Nat} (h : k < m) : nth (l.take m) k = nth l k := by unfold nth; simp [List.getD, h]
theorem nth_drop {l : List S} {m k : Nat} : nth (l.drop m) k = nth l (m + k) := by unfold nth; simp [List.getD]
theorem len_take {l : List S} {m : Nat} : ∀ k : Nat, k < m → len (l.take m) k = len l k
  | 0, _ => rfl
  | k + 1, h => by
    have e : len (l.take m) (k + 1) = len (l.take m) k + stp (nth (l.take m) k) (nth (l.take m) (k + 1)) := rfl
    rw [e, len_take k (by omega), nth_take (by omega), nth_take h]
    rfl
theorem len_add {l : List S} {m : Nat} : ∀ k : Nat, len l m + len (l.drop m) k = len l (m + k)
  | 0 => by simp [len]
  | k + 1 => by
    have e : len (l.drop m) (k + 1) = len (l.drop m) k + stp (nth (l.drop m) k) (nth (l.drop m) (k + 1)) := rfl
    have e2 : len l (m + (k + 1)) = len l (m + k) + stp (nth l (m + k)) (nth l (m + (k + 1))) := rfl
    have := len_add (l := l) (m := m) k
    rw [e, e2, nth_drop, nth_drop]
    omega
/-- In a sequence no gap is greater than all. -/
theorem gap_all {l : List S} (h : good l = true) : ∀ k : Nat, k < l.length → gap l k ≤ (nth l k).t - (nth l 0).t ∧ (nth l 0).t ≤ (nth l k).t
  | 0, _ => by simp [gap]
  | k + 1, hk => by
    have ih := gap_all h k (by omega)
    have e : gap l (k + 1) = max (gap l k) ((nth l (k + 1)).t - (nth l k).t) := rfl
    have hr := good_rise h (List.getElem?_eq_getElem (show k < l.length by omega)) (List.getElem?_eq_getElem hk)
    rw [← nth_of (List.getElem?_eq_getElem (show k < l.length by omega)), ← nth_of (List.getElem?_eq_getElem hk)] at hr
    rw [e]
    omega

set_option maxHeartbeats 400000 in
set_option maxRecDepth 100000 in
theorem apart_any (a b : Int) (ha : 0 ≤ a ∧ a < 67108864) (hb : 0 ≤ b ∧ b < 67108864) (w : World) : Calls Try.prog 38 #[.int .i64 a, .int .i64 b] w fun e w' => e = .returned (.int .i64 (dif a b)) ∧ w' = w := by
  obtain ⟨a1, a2⟩ := ha
  obtain ⟨b1, b2⟩ := hb
  rcases Int.lt_trichotomy a b with hab | hab | hab
  · have hd : dif a b = b - a := by unfold dif; omega
    have h1 : ¬ b < a := by omega
    have h2 : a ≤ b := by omega
    rw [hd]
    go_enter Try.func38, Try.ntmps38
    go_wp2
    go_ret
    exact ⟨ret_int (by omega), rfl⟩
  · subst hab
    have hd : dif a a = 0 := by unfold dif; omega
    have hw : IntKind.i64.wrap 0 = 0 := IntWalk.i64_in _ ⟨by omega, by omega⟩
    rw [hd]
    go_enter Try.func38, Try.ntmps38
    go_wp2
    go_ret
    exact ⟨ret_int (by omega), rfl⟩
  · have hd : dif a b = a - b := by unfold dif; omega
    have h1 : ¬ a < b := by omega
    have h2 : ¬ a ≤ b := by omega
    rw [hd]
    go_enter Try.func38, Try.ntmps38
    go_wp2
    go_ret
    exact ⟨ret_int (by omega), rfl⟩

set_option maxHeartbeats 400000 in
set_option maxRecDepth 100000 in
theorem amount_any (a b : Int) (ha : 0 ≤ a ∧ a < 67108864) (hb : 0 ≤ b ∧ b < 67108864) (w : World) : Calls Try.prog 39 #[.int .i64 (a - b)] w fun e w' => e = .returned (.int .i64 (dif a b)) ∧ w' = w := by
  obtain ⟨a1, a2⟩ := ha
  obtain ⟨b1, b2⟩ := hb
  by_cases hab : a - b < 0
  · have hd : dif a b = - (a - b) := by unfold dif; omega
    have h1 : decide (a - b < 0) = true := decide_eq_true hab
    rw [hd]
    go_enter Try.func39, Try.ntmps39
    go_wp2
    go_ret
    exact ⟨ret_int (by omega), rfl⟩
  · have hd : dif a b = a - b := by unfold dif; omega
    have h1 : decide (a - b < 0) = false := decide_eq_false hab
    rw [hd]
    go_enter Try.func39, Try.ntmps39
    go_wp2
    go_ret
    exact ⟨ret_int (by omega), rfl⟩
end Go.Proofs.Ytmpihllcmdgapaa.Trc

/- Layer 6 (trace): Gap and Length, as contracts. -/
namespace Go.Proofs.Ytmpihllcmdgapaa.Trc
open Go.RowKit Var Fld Smp

theorem max_up {a b c : Int} (h : max a b = c) : (if a < b then b else a) = c := by omega

set_option maxHeartbeats 1600000 in
set_option maxRecDepth 100000 in
theorem gap_any (A : Option Addr) (n c B : Nat) (ss : List S) (w : World) (h : SRow w B A n ss) (hmay : ∀ s ∈ ss, may s = true) (hn : n ≤ 10000) :
    Calls Try.prog 17 #[.slice A n c] w fun e w' => e = .returned (.int .i64 (gap ss (n - 1))) ∧ ∃ q, w' = w.drewN q := by
  have H := Lib.hid h
  have HM := Lib.hid hmay
  clear h hmay
  go_enter Try.func17, Try.ntmps17
  go_wp2
  go_loopw [3, 4] (fun g i wr => ∃ k q : Nat, k ≤ n - 1 ∧ i = .int .i64 ((k : Int) + 1) ∧ g = .int .i64 (gap ss k) ∧ Hid (wr = w.drewN q)) (fun _ i _ => n - (intOf i).toNat)
  case atStart => exact ⟨0, 0, Nat.zero_le _, rfl, rfl, rfl⟩
  case round =>
    obtain ⟨k, q, hk, rfl, rfl, hw⟩ := hrel
    obtain rfl := hw.out
    clear hw
    by_cases hlt : k + 1 < n
    · obtain ⟨b, o, a, rfl, _, ha, _, a0, -, -⟩ := H.out.at (show k < n by omega)
      obtain ⟨_, _, s, e1, _, hs, _, s0, -, -⟩ := H.out.at hlt
      injection e1 with e1
      injection e1 with e1 e2
      subst e1 e2
      have ea := nth_of ha
      have es := nth_of hs
      have ba := nth_bd HM.out k
      have bs := nth_bd HM.out (k + 1)
      have bg := gap_bd HM.out k
      have eg : gap ss (k + 1) = max (gap ss k) ((nth ss (k + 1)).t - (nth ss k).t) := rfl
      rw [ea] at ba eg
      rw [es] at bs eg
      have hd : IntKind.i64.wrap (s.t - a.t) = s.t - a.t := IntWalk.i64_in _ ⟨by omega, by omega⟩
      have hw1 : IntKind.i64.wrap ((k : Int) + 1 - 1) = (k : Int) := by rw [IntWalk.i64_in _ ⟨by omega, by omega⟩]; omega
      have hw2 : IntKind.i64.wrap ((k : Int) + 1 + 1) = (k : Int) + 1 + 1 := IntWalk.i64_in _ ⟨by omega, by omega⟩
      have hw3 : IntKind.i64.wrap (k : Int) = (k : Int) := IntWalk.i64_in _ ⟨by omega, by omega⟩
      have i1 : (0 : Int) ≤ (k : Int) + 1 := by omega
      have i3 : (0 : Int) ≤ (k : Int) := by omega
      have i4 : (k : Int) < n := by omega
      have i5 : k < n := by omega
      have i6 : ((k : Int) + 1).toNat = k + 1 := by omega
      have i2 : (k : Int) + 1 < n := by omega
      have HE := Lib.hid eg
      clear ea es ba bs bg eg ha hs
      have c0 : (w.drewN q).cell? ⟨b, o + k * 3, none⟩ = some (.int .i64 a.t) := a0
      have c1 : (w.drewN q).cell? ⟨b, o + (k + 1) * 3, none⟩ = some (.int .i64 s.t) := s0
      clear a0 s0
      by_cases hmx : gap ss k < s.t - a.t
      case' pos =>
        have hg : gap ss (k + 1) = s.t - a.t := by have := HE.out; omega
        have hif : max (gap ss k) (s.t - a.t) = s.t - a.t := by omega
        have HG := Lib.hid hg
        clear hg HE
        go_wp2_with fail
        go_region_held3 (fun wx => wx.cell? ⟨b, o + k * 3, none⟩ = some (.int .i64 a.t) ∧ wx.cell? ⟨b, o + (k + 1) * 3, none⟩ = some (.int .i64 s.t)) (exact ⟨c0, c1⟩) (fail)
      case' neg =>
        have hg : gap ss (k + 1) = gap ss k := by have := HE.out; omega
        have hif : max (gap ss k) (s.t - a.t) = gap ss k := by omega
        have HG := Lib.hid hg
        clear hg HE
        go_wp2_with fail
        go_region_held3 (fun wx => wx.cell? ⟨b, o + k * 3, none⟩ = some (.int .i64 a.t) ∧ wx.cell? ⟨b, o + (k + 1) * 3, none⟩ = some (.int .i64 s.t)) (exact ⟨c0, c1⟩) (fail)
      all_goals
        go_wp2
        go_roundw
        case' rel => exact ⟨k + 1, q + 1, by omega, by go_num, by rw [HG.out], rfl⟩
        case' measure => simp [intOf]; omega
    · have hkn : k = n - 1 := by omega
      subst hkn
      go_wp2
      go_ret
      exact ⟨rfl, _, rfl⟩

set_option maxHeartbeats 1600000 in
set_option maxRecDepth 100000 in
theorem length_any (A : Option Addr) (n c B : Nat) (ss : List S) (w : World) (h : SRow w B A n ss) (hmay : ∀ s ∈ ss, may s = true) (hn : n ≤ 10000) :
    Calls Try.prog 15 #[.slice A n c] w fun e w' => e = .returned (.int .i64 (len ss (n - 1))) ∧ ∃ q, w' = w.drewN q := by
  have H := Lib.hid h
  have HM := Lib.hid hmay
  clear h hmay
  go_enter Try.func15, Try.ntmps15
  go_wp2
  go_loopw [3, 4] (fun g i wr => ∃ k q : Nat, k ≤ n - 1 ∧ i = .int .i64 ((k : Int) + 1) ∧ g = .int .i64 (len ss k) ∧ Hid (wr = w.drewN q)) (fun _ i _ => n - (intOf i).toNat)
  case atStart => exact ⟨0, 0, Nat.zero_le _, rfl, rfl, rfl⟩
  case round =>
    obtain ⟨k, q, hk, rfl, rfl, hw⟩ := hrel
    obtain rfl := hw.out
    clear hw
    by_cases hlt : k + 1 < n
    · obtain ⟨b, o, a, rfl, _, ha, _, -, a1, a2⟩ := H.out.at (show k < n by omega)
      obtain ⟨_, _, s, e1, _, hs, _, -, s1, s2⟩ := H.out.at hlt
      injection e1 with e1
      injection e1 with e1 e2
      subst e1 e2
      have ea := nth_of ha
      have es := nth_of hs
      have ba := nth_bd HM.out k
      have bs := nth_bd HM.out (k + 1)
      have bl := len_bd HM.out k
      have eg : len ss (k + 1) = len ss k + stp (nth ss k) (nth ss (k + 1)) := rfl
      rw [ea] at ba eg
      rw [es] at bs eg
      unfold stp at eg
      have dx := dif_bd (a := s.x) (b := a.x) (by omega) (by omega) (by omega) (by omega)
      have dy := dif_bd (a := s.y) (b := a.y) (by omega) (by omega) (by omega) (by omega)
      have px : 0 ≤ s.x ∧ s.x < 67108864 := by omega
      have qx : 0 ≤ a.x ∧ a.x < 67108864 := by omega
      have py : 0 ≤ s.y ∧ s.y < 67108864 := by omega
      have qy : 0 ≤ a.y ∧ a.y < 67108864 := by omega
      have PX : Hid (∀ w, Calls Try.prog 38 #[.int .i64 s.x, .int .i64 a.x] w fun e w' => e = .returned (.int .i64 (dif s.x a.x)) ∧ w' = w) := apart_any _ _ px qx
      have PY : Hid (∀ w, Calls Try.prog 38 #[.int .i64 s.y, .int .i64 a.y] w fun e w' => e = .returned (.int .i64 (dif s.y a.y)) ∧ w' = w) := apart_any _ _ py qy
      clear px qx py qy
      have c0 : (w.drewN q).cell? ⟨b, o + k * 3 + 1, none⟩ = some (.int .i64 a.x) := a1
      have c1 : (w.drewN q).cell? ⟨b, o + k * 3 + 2, none⟩ = some (.int .i64 a.y) := a2
      have c2 : (w.drewN q).cell? ⟨b, o + (k + 1) * 3 + 1, none⟩ = some (.int .i64 s.x) := s1
      have c3 : (w.drewN q).cell? ⟨b, o + (k + 1) * 3 + 2, none⟩ = some (.int .i64 s.y) := s2
      obtain ⟨X, hX⟩ : ∃ X, dif s.x a.x = X := ⟨_, rfl⟩
      obtain ⟨Y, hY⟩ : ∃ Y, dif s.y a.y = Y := ⟨_, rfl⟩
      rw [hX] at eg dx PX
      rw [hY] at eg dy PY
      clear hX hY
      generalize s.x = sx at *
      generalize s.y = sy at *
      generalize a.x = ax at *
      generalize a.y = ay at *
      have hw0 : IntKind.i64.wrap (len ss k + X) = len ss k + X := IntWalk.i64_in _ ⟨by omega, by omega⟩
      have hw4 : IntKind.i64.wrap (len ss k + Y) = len ss k + Y := IntWalk.i64_in _ ⟨by omega, by omega⟩
      have hw1 : IntKind.i64.wrap ((k : Int) + 1 - 1) = (k : Int) := by rw [IntWalk.i64_in _ ⟨by omega, by omega⟩]; omega
      have hw2 : IntKind.i64.wrap ((k : Int) + 1 + 1) = (k : Int) + 1 + 1 := IntWalk.i64_in _ ⟨by omega, by omega⟩
      have hw3 : IntKind.i64.wrap (k : Int) = (k : Int) := IntWalk.i64_in _ ⟨by omega, by omega⟩
      have i1 : (0 : Int) ≤ (k : Int) + 1 := by omega
      have i3 : (0 : Int) ≤ (k : Int) := by omega
      have i4 : (k : Int) < n := by omega
      have i5 : k < n := by omega
      have i6 : ((k : Int) + 1).toNat = k + 1 := by omega
      have i2 : (k : Int) + 1 < n := by omega
      have HE := Lib.hid eg
      clear ea es ba bs eg ha hs bl dx dy a1 a2 s1 s2
      by_cases hmx : X < Y
      case' pos =>
        have hg : len ss (k + 1) = len ss k + Y := by have := HE.out; omega
        have hif : max X Y = Y := by omega
        have HG := Lib.hid hg
        clear hg HE
        go_wp2_with fail
        go_region_held3 (fun wx => wx.cell? ⟨b, o + k * 3 + 1, none⟩ = some (.int .i64 ax) ∧ wx.cell? ⟨b, o + k * 3 + 2, none⟩ = some (.int .i64 ay) ∧ wx.cell? ⟨b, o + (k + 1) * 3 + 1, none⟩ = some (.int .i64 sx) ∧ wx.cell? ⟨b, o + (k + 1) * 3 + 2, none⟩ = some (.int .i64 sy)) (exact ⟨c0, c1, c2, c3⟩) (first
          | (go_at_call 38; (first | (with_reducible refine (PX.out _).mono ?_) | (with_reducible refine (PY.out _).mono ?_)); rintro e9 w9 ⟨rfl, rfl⟩))
      case' neg =>
        have hg : len ss (k + 1) = len ss k + X := by have := HE.out; omega
        have hif : max X Y = X := by omega
        have HG := Lib.hid hg
        clear hg HE
        go_wp2_with fail
        go_region_held3 (fun wx => wx.cell? ⟨b, o + k * 3 + 1, none⟩ = some (.int .i64 ax) ∧ wx.cell? ⟨b, o + k * 3 + 2, none⟩ = some (.int .i64 ay) ∧ wx.cell? ⟨b, o + (k + 1) * 3 + 1, none⟩ = some (.int .i64 sx) ∧ wx.cell? ⟨b, o + (k + 1) * 3 + 2, none⟩ = some (.int .i64 sy)) (exact ⟨c0, c1, c2, c3⟩) (first
          | (go_at_call 38; (first | (with_reducible refine (PX.out _).mono ?_) | (with_reducible refine (PY.out _).mono ?_)); rintro e9 w9 ⟨rfl, rfl⟩))
      all_goals
        go_wp2
        go_roundw
        case' rel => exact ⟨k + 1, q + 1, by omega, by go_num, by rw [HG.out], rfl⟩
        case' measure => simp [intOf]; omega
    · have hkn : k = n - 1 := by omega
      subst hkn
      go_wp2
      go_ret
      exact ⟨rfl, _, rfl⟩
end Go.Proofs.Ytmpihllcmdgapaa.Trc

/- Layer 5 (sample): the reference's Same of equal slices, as a contract. -/
namespace Go.Proofs.Ytmpihllcmdgapaa.Smp
open Go.RowKit Var Fld

set_option maxHeartbeats 1600000 in
set_option maxRecDepth 100000 in
theorem alike_any (A A' : Option Addr) (n c c' B B' : Nat) (ss : List S) (w : World) (hn : n ≤ 4398046511104) (h1 : SRow w B A n ss) (h2 : SRow w B' A' n ss) :
    Calls Try.prog 12 #[.slice A n c, .slice A' n c'] w fun e w' => e = .returned (.bool true) ∧ ∃ q, w' = w.drewN q := by
  have H1 := Lib.hid h1
  have H2 := Lib.hid h2
  clear h1 h2
  go_enter Try.func12, Try.ntmps12
  go_wp2
  go_loopw [5] (fun i wr => ∃ k q : Nat, k ≤ n ∧ i = .int .i64 (k : Int) ∧ Hid (wr = w.drewN q)) (fun i _ => n - (intOf i).toNat)
  case atStart => exact ⟨0, 0, Nat.zero_le _, rfl, rfl⟩
  case round =>
    obtain ⟨k, q, hk, rfl, hw⟩ := hrel
    obtain rfl := hw.out
    clear hw
    by_cases hlt : k < n
    · obtain ⟨b, o, s, rfl, _, hs, _, c0, c1, c2⟩ := H1.out.at hlt
      obtain ⟨b', o', s', rfl, _, hs', _, d0, d1, d2⟩ := H2.out.at hlt
      rw [hs] at hs'
      injection hs' with hs'
      subst hs'
      clear hs
      go_wp2_with fail
      go_quiet (fail)
      go_wp2
      go_roundw
      case rel => exact ⟨k + 1, _, by omega, by go_num, by unfold Hid; rfl⟩
      case measure => simp [intOf]; omega
    · go_wp2
      go_ret
      exact ⟨rfl, _, rfl⟩

end Go.Proofs.Ytmpihllcmdgapaa.Smp

/- Layer 6 (trace): awake of the statements; TraceBytes as a walk. -/
namespace Go.Proofs.Ytmpihllcmdgapaa.Trc
open Go.RowKit Var Fld Smp

set_option maxHeartbeats 1600000 in
set_option maxRecDepth 100000 in
theorem awake_any (w : World) : Calls Try.prog 6 #[] w fun e w' => e = .returned (.bool true) ∧ Below w.heap.size w w' := by
  obtain ⟨wA, hwA⟩ : ∃ wA, w.alloc (.cells #[.int .i64 0, .int .i64 0, .int .i64 0, .int .i64 1, .int .i64 3, .int .i64 1, .int .i64 2, .int .i64 3, .int .i64 9] 38) = wA := ⟨_, rfl⟩
  have hb : Below w.heap.size w wA := by rw [← hwA]; exact (Below.refl _ _).alloc (Nat.le_refl _) _
  have hrow : SRow wA wA.heap.size (some ⟨w.heap.size, 0, none⟩) 3 [⟨0, 0, 0⟩, ⟨1, 3, 1⟩, ⟨2, 3, 9⟩] := by
    have q := heap_alloc_new w (.cells #[.int .i64 0, .int .i64 0, .int .i64 0, .int .i64 1, .int .i64 3, .int .i64 1, .int .i64 2, .int .i64 3, .int .i64 9] 38)
    rw [hwA] at q
    refine ⟨rfl, ?_, fun _ => ⟨w.heap.size, 0, rfl, (Array.getElem?_eq_some_iff.1 q).1, ?_⟩⟩
    · intro s hs
      refine may_ok ?_
      simp only [List.mem_cons, List.not_mem_nil, or_false] at hs
      rcases hs with rfl | rfl | rfl <;> rfl
    · intro j s hj i hi
      match j, hj with
      | 0, hj =>
        simp at hj
        subst hj
        match i, hi with
        | 0, _ => exact cell_of_blk q rfl
        | 1, _ => exact cell_of_blk q rfl
        | 2, _ => exact cell_of_blk q rfl
      | 1, hj =>
        simp at hj
        subst hj
        match i, hi with
        | 0, _ => exact cell_of_blk q rfl
        | 1, _ => exact cell_of_blk q rfl
        | 2, _ => exact cell_of_blk q rfl
      | 2, hj =>
        simp at hj
        subst hj
        match i, hi with
        | 0, _ => exact cell_of_blk q rfl
        | 1, _ => exact cell_of_blk q rfl
        | 2, _ => exact cell_of_blk q rfl
      | j + 3, hj => simp at hj
  have P := length_any _ 3 3 _ _ wA hrow (by intro s hs; simp only [List.mem_cons, List.not_mem_nil, or_false] at hs; rcases hs with rfl | rfl | rfl <;> rfl) (by omega)
  have hl : len [⟨0, 0, 0⟩, ⟨1, 3, 1⟩, ⟨2, 3, 9⟩] (3 - 1) = 11 := by decide
  rw [hl] at P
  have HP := Lib.hid P
  have HB := Lib.hid hb
  have HA := Lib.hid hwA
  clear hb hrow P hl hwA
  go_enter Try.func6, Try.ntmps6
  go_wp2_with fail
  rw [HA.out]
  refine HP.out.mono ?_
  rintro e1 w1 ⟨rfl, q, rfl⟩
  go_wp2
  go_ret
  have hb := HB.out
  exact ⟨rfl, ⟨hb.os, hb.tape, hb.output, hb.size, hb.block⟩⟩

set_option maxHeartbeats 3200000 in
set_option maxRecDepth 100000 in
theorem bytes_walk (A : Option Addr) (n c : Nat) (ss : List S) (A' : Option Addr) (n' c' : Nat) (bs : List Int) (w : World) (h : SRow w w.heap.size A n ss) (hn : n ≤ maxLen) (hnc : n ≤ c)
    (h' : Row .u8 w w.heap.size A' n' bs) (hnil : A' = none → c' = 0) (hnc' : n' ≤ c') (hc' : c' ≤ maxLen) (hbyt : ∀ x ∈ bs, 0 ≤ x ∧ x ≤ 255) :
    Calls Try.prog 3 #[.slice A n c, .slice A' n' c'] w fun e w' => e = .returned (.bool true) ∧ Below w.heap.size w w' := by
  have H := Lib.hid h
  have HN := Lib.hid hn
  have HC := Lib.hid hnc
  have H' := Lib.hid h'
  have HI' := Lib.hid hnil
  have HC' := Lib.hid hnc'
  have HM' := Lib.hid hc'
  have HY := Lib.hid hbyt
  clear h hn hnc h' hnil hnc' hc' hbyt
  go_enter Try.func3, Try.ntmps3
  go_wp2_with fail
  refine (awake_any _).mono ?_
  rintro e1 w1 ⟨rfl, hb1⟩
  have HB1 := Lib.hid hb1
  clear hb1
  by_cases hbig : 2100 < n
  · have hd : decide (2100 < (n : Int)) = true := decide_eq_true (by omega)
    go_wp2
    go_ret
    exact ⟨rfl, HB1.out⟩
  · have hd : decide (2100 < n) = false := decide_eq_false hbig
    by_cases hbig' : 4000 < n'
    · go_wp2
      go_ret
      exact ⟨rfl, HB1.out⟩
    · have hd' : decide (4000 < n') = false := decide_eq_false hbig'
      go_wp2_with fail
      refine (put_any A n c ss w1 ((H.out.below HB1.out).more HB1.out.size) HC.out (by omega)).mono ?_
      rintro e2 w2 ⟨v2, rfl, hown2, hb2⟩
      obtain ⟨A2, c2, rfl, -⟩ := own_nil hown2
      have HO2 := Lib.hid hown2
      have HB2 := Lib.hid (HB1.out.trans (hb2.mono HB1.out.size))
      clear hown2 hb2 hd hd'
      go_wp2_with fail
      refine (refput_any A n c ss w2 ((H.out.below HB2.out).more HB2.out.size) (by omega)).mono ?_
      rintro e3 w3 ⟨v3, rfl, hown3, hb3⟩
      obtain ⟨A3, c3, rfl, -⟩ := own_nil hown3
      have HR2 := Lib.hid ((Row.of_own HO2.out).below hb3)
      have HL23 := Lib.hid hb3.size
      have HO3 := Lib.hid hown3
      have HB3 := Lib.hid (HB2.out.trans (hb3.mono HB2.out.size))
      clear hown3 hb3 HO2
      go_wp2_with fail
      refine (take_any A' n' c' bs w3 ((H'.out.below HB3.out).more HB3.out.size) HI'.out HC'.out (by omega) HM'.out HY.out).mono ?_
      rintro e4 w4 ⟨v4, rfl, hown4, hb4⟩
      obtain ⟨A4, c4, rfl, -⟩ := own3_slice hown4
      have hs4 := hb4.size
      have HR2 := Lib.hid ((HR2.out.more HL23.out).below hb4)
      have HR3 := Lib.hid ((Row.of_own HO3.out).below hb4)
      have HR4 := Lib.hid (SRow.of_own hown4 (fun s hs => may_ok (good_may (trT_good HY.out).1 hs)))
      have HB4 := Lib.hid (HB3.out.trans (hb4.mono HB3.out.size))
      clear hown4 hb4 HO3
      go_wp2_with fail
      refine (reftake_any A' n' c' bs w4 ((H'.out.below HB4.out).more HB4.out.size) HC'.out (by omega) HM'.out HY.out).mono ?_
      rintro e5 w5 ⟨v5, rfl, hown5, hb5⟩
      obtain ⟨A5, c5, rfl, -⟩ := own3_slice hown5
      have HR2 := Lib.hid ((HR2.out.more hs4).below hb5)
      have HR3 := Lib.hid ((HR3.out.more hs4).below hb5)
      have HR4 := Lib.hid (HR4.out.below hb5)
      have HR5 := Lib.hid (SRow.of_own hown5 (fun s hs => may_ok (good_may (trT_good HY.out).1 hs)))
      have HB5 := Lib.hid (HB4.out.trans (hb5.mono HB4.out.size))
      have hl1 := trB_len ss
      have hl2 := (trT_good HY.out).2
      have he1 : ((putE ss : Int) == putE ss) = true := beq_self_eq_true _
      have he2 : (((trT bs).2 : Int) == ((trT bs).2 : Int)) = true := beq_self_eq_true _
      clear hown5 hb5
      go_wp2_with fail
      refine (same_yes A2 A3 _ c2 c3 _ _ (trB ss) w5 (by omega) HR2.out HR3.out).mono ?_
      rintro e6 w6 ⟨rfl, q6, rfl⟩
      have HB6 : Hid (Below w.heap.size w (w5.drewN q6)) := by
        have := HB5.out
        exact ⟨this.os, this.tape, this.output, this.size, this.block⟩
      have HR4' : Hid (SRow (w5.drewN q6) w4.heap.size A4 (trT bs).1.length (trT bs).1) := HR4.out
      have HR5' : Hid (SRow (w5.drewN q6) w5.heap.size A5 (trT bs).1.length (trT bs).1) := HR5.out
      clear HB5 HR2 HR3 HR4 HR5
      generalize w5.drewN q6 = w7 at HB6 HR4' HR5' ⊢
      go_wp2_with fail
      refine (alike_any A4 A5 _ c4 c5 _ _ (trT bs).1 w7 (by omega) HR4'.out HR5'.out).mono ?_
      rintro e8 w8 ⟨rfl, q8, rfl⟩
      go_wp2
      go_ret
      have hb := HB6.out
      exact ⟨rfl, ⟨hb.os, hb.tape, hb.output, hb.size, hb.block⟩⟩
end Go.Proofs.Ytmpihllcmdgapaa.Trc

/- The last step of a law's row, over any program: a call that returned true and left all old memory as it was meets 'true; the input reads as it did'. -/
namespace Go.Proofs.Ytmpihllcmdgapaa
open Go.ChangeShapes Go.WideShapes Go.ChangeAt Go.RowKit

section
variable {H : Type} {enc : TypeId × Value → H} {P : Program} {W W' : World}

theorem trodAll_stays (hl : laidOutB P = true) (hb : Below W.heap.size W W') : ∀ {ts : List TypeId} {vs : List Value} {ds : List (DataW H)} {ps : List MemPlace},
    ts.all (fun t => P.readableRec t && decide (t < P.types.size)) = true → DataW.TrodAll enc P W 0 (fun _ => true) true ts vs ds ps → (∀ x ∈ ps, x.block < W.heap.size) →
    DataW.TrodAll enc P W' 0 (fun b => decide (b < W.heap.size)) true ts vs ds ps
  | [], _, _, _, _, h, _ => by
    obtain ⟨rfl, rfl, rfl⟩ := trodAll_nil h
    exact trodAll_mk0
  | t :: ts, _, _, _, ht, h, hp => by
    obtain ⟨v, vs, d, ds, a, b, rfl, rfl, rfl, h1, h2⟩ := trodAll_cons h
    simp only [List.all_cons, Bool.and_eq_true, decide_eq_true_eq] at ht
    exact trodAll_cons_mk (Below.trod hl ht.1.1 ht.1.2 h1 hb (fun x hx => hp x (List.mem_append_left _ hx)))
      (trodAll_stays hl hb (by simpa using ht.2) h2 (fun x hx => hp x (List.mem_append_right _ hx)))

/-- A law's post: true came back, old memory is as it was. -/
theorem law_post {f : Func} {s : ChangeSpec} {tb : TypeId} {args : Array Value} {ds : List (DataW H)} {before : List MemPlace}
    (hl : laidOutB P = true) (hts : f.params.toList.all (fun t => P.readableRec t && decide (t < P.types.size)) = true) (hr : f.resultTypes = #[tb]) (htb : P.underlying tb = some .bool) (hv : s.vars = [])
    (hW : DataW.Whole enc P f.params.toList s.vars false W args.toList ds [] before) (hfn : s.fn H ds = { results := [.lit (.bool true)], args := ds }) (hb : Below W.heap.size W W') :
    s.post enc P f false true false false W args (.bool true) W' := by
  have hW' := hW
  obtain ⟨p, q, hA, hV, rfl, _, _⟩ := hW
  rw [hv] at hV
  obtain ⟨_, rfl⟩ := trodVars_none hV
  refine ⟨ds, [], p ++ [], [], p, [], hW', ?_, ?_, ?_, hb.frame _, fun h => by cases h⟩
  · rw [List.append_nil, hfn, hr]
    exact trodAll_cons_mk (shut_bool htb _) trodAll_mk0
  · rw [List.append_nil, hfn]
    exact trodAll_stays hl hb hts hA (fun x hx => hW'.lt x (List.mem_append_left _ hx))
  · rw [List.append_nil, hfn, hv]
    rfl
end

/-- What opening a slice of integers gives, as 'Row'. -/
theorem row_of_open {k : IntKind} {w : World} {a : Addr} {len : Nat} {zs : List Int} (hl : len ≤ zs.length) (hc : ∀ i, i < zs.length → w.cell? (a.add i) = some (.int k (zs.getD i 0))) : Row k w w.heap.size (some a) len (zs.take len) := by
  refine ⟨by simp; omega, fun hn => ?_⟩
  obtain ⟨b, o, rfl, hcell⟩ := ints_at hc (by omega)
  refine ⟨b, o, rfl, World.block_lt_of_cell? w _ (hcell 0 (by omega)), fun j hj => ?_⟩
  rw [hcell j (by omega)]
  simp [List.getD, hj]
end Go.Proofs.Ytmpihllcmdgapaa

/- A law's arguments opened, over any program: a slice of integers as 'Row', an array of integers by value. -/
namespace Go.Proofs.Ytmpihllcmdgapaa
open Go.ChangeShapes Go.WideShapes Go.ChangeAt Go.RowKit

section
variable {H : Type} {enc : TypeId × Value → H} {P : Program} {W : World} {base : Nat}

/-- A slice of integers that came in. -/
theorem open_row {t e : TypeId} {k : IntKind} {v : Value} {d : DataW H} {ps : List MemPlace} (ht : P.underlying t = some (.slice e)) (he : P.underlying e = some (.int k)) (hc : P.cellsOf e = 1)
    (hv : Value.okWide P W .any base t v) (h : DataW.Trod enc P W 0 (fun _ => true) true t v d ps) :
    ∃ A n c xs, v = .slice A n c ∧ Row k W W.heap.size A n xs ∧ (A = none → c = 0) ∧ ∀ x ∈ xs, (Lit.int k x).wf = true := by
  obtain ⟨a0, len, cap, rfl⟩ := okWide_slice ht hv
  obtain ⟨fuel, hf⟩ := h
  rcases open_ints ht he hc hf with ⟨hcs, hx⟩ | ⟨a, len', cap', zs, hcs, _, hl, hm, hz, hx, hcell, hwz⟩
  · simp [Value.cells] at hcs
    obtain ⟨rfl, rfl, rfl⟩ := hcs
    exact ⟨none, 0, 0, [], rfl, Row.none_, fun _ => rfl, by simp⟩
  · simp [Value.cells] at hcs
    obtain ⟨rfl, rfl, rfl⟩ := hcs
    exact ⟨some a, len, cap, zs.take len, rfl, row_of_open (by simp at hz; omega) hcell, (fun h => by cases h), fun x hx => hwz x (List.mem_of_mem_take hx)⟩

/-- The same, with its capacity. -/
theorem open_row2 {t e : TypeId} {k : IntKind} {v : Value} {d : DataW H} {ps : List MemPlace} (ht : P.underlying t = some (.slice e)) (he : P.underlying e = some (.int k)) (hc : P.cellsOf e = 1)
    (hv : Value.okWide P W .any base t v) (h : DataW.Trod enc P W 0 (fun _ => true) true t v d ps) :
    ∃ A n c xs, v = .slice A n c ∧ Row k W W.heap.size A n xs ∧ (A = none → c = 0) ∧ n ≤ c ∧ c ≤ maxLen ∧ ∀ x ∈ xs, (Lit.int k x).wf = true := by
  obtain ⟨a0, len, cap, rfl⟩ := okWide_slice ht hv
  obtain ⟨fuel, hf⟩ := h
  rcases open_ints ht he hc hf with ⟨hcs, hx⟩ | ⟨a, len', cap', zs, hcs, _, hl, hm, hz, hx, hcell, hwz⟩
  · simp [Value.cells] at hcs
    obtain ⟨rfl, rfl, rfl⟩ := hcs
    exact ⟨none, 0, 0, [], rfl, Row.none_, fun _ => rfl, Nat.le_refl _, Nat.zero_le _, by simp⟩
  · simp [Value.cells] at hcs
    obtain ⟨rfl, rfl, rfl⟩ := hcs
    exact ⟨some a, len, cap, zs.take len, rfl, row_of_open (by simp at hz; omega) hcell, (fun h => by cases h), hl, hm, fun x hx => hwz x (List.mem_of_mem_take hx)⟩

theorem mapM_mem {α β : Type} {f : α → Option β} : ∀ {L : List α} {ys : List β}, L.mapM f = some ys → ∀ i ∈ L, ∃ y, f i = some y
  | [], _, _, i, hi => by simp at hi
  | a :: L, ys, h, i, hi => by
    rw [List.mapM_cons] at h
    simp only [bind, Option.bind_eq_some_iff, pure, Option.some.injEq] at h
    obtain ⟨y, hy, ys', hys, _⟩ := h
    rcases List.mem_cons.1 hi with rfl | hi
    · exact ⟨y, hy⟩
    · exact mapM_mem hys i hi

/-- An array of integers that came in, by value. -/
theorem open_arr {t e : TypeId} {k : IntKind} {m : Nat} {v : Value} {d : DataW H} {ps : List MemPlace} (ht : P.underlying t = some (.array m e)) (he : P.underlying e = some (.int k)) (hc : P.cellsOf e = 1) (hct : P.cellsOf t = m)
    (hv : Value.okWide P W .any base t v) (h : DataW.Trod enc P W 0 (fun _ => true) true t v d ps) :
    ∃ xs : List Int, v = .agg (xs.map (Value.int k)).toArray ∧ xs.length = m ∧ ∀ x ∈ xs, (Lit.int k x).wf = true := by
  simp only [Value.okWide, ht] at hv
  obtain ⟨cs, rfl, hsz, _⟩ := hv
  rw [hct] at hsz
  obtain ⟨fuel, hf⟩ := h
  cases fuel with
  | zero => simp [DataW.trod] at hf
  | succ q =>
    rw [DataW.trod_step] at hf
    unfold DataW.trodStep at hf
    simp only [ht, Value.cells] at hf
    rw [if_pos (by rw [hct]; simpa using hsz)] at hf
    simp only [Option.map_eq_some_iff] at hf
    obtain ⟨ys, hy, _⟩ := hf
    have hall : ∀ i, i < m → ∃ a, cs.toList[i]? = some (.int k a) ∧ (Lit.int k a).wf = true := fun i hi => by
      obtain ⟨y, h1⟩ := mapM_mem hy i (by simpa using hi)
      obtain ⟨a, h2, _, h3⟩ := DataW.trod_int he h1
      refine ⟨a, ?_, h3⟩
      rw [hc, Nat.mul_one] at h2
      have h4 : i < cs.toList.length := by simpa [hsz] using hi
      rw [List.drop_eq_getElem_cons h4] at h2
      simp only [List.take_succ_cons, List.take_zero, List.cons.injEq, and_true] at h2
      rw [List.getElem?_eq_getElem h4, h2]
    have hl : cs.toList.length = m := by simpa using hsz
    have hxs : ∀ (L : List Value) (m : Nat), L.length = m → (∀ i, i < m → ∃ a, L[i]? = some (.int k a) ∧ (Lit.int k a).wf = true) → ∃ xs : List Int, L = xs.map (Value.int k) ∧ ∀ x ∈ xs, (Lit.int k x).wf = true := by
      intro L
      induction L with
      | nil => intro _ _ _; exact ⟨[], rfl, by simp⟩
      | cons u L ih =>
        intro m hm hA
        obtain ⟨a, h1, h2⟩ := hA 0 (by simp at hm; omega)
        obtain ⟨xs, h3, h4⟩ := ih (m - 1) (by simp at hm; omega) (fun i hi => by simpa using hA (i + 1) (by omega))
        simp at h1
        refine ⟨a :: xs, by simp [h1, h3], fun x hx => ?_⟩
        rcases List.mem_cons.1 hx with rfl | hx
        · exact h2
        · exact h4 x hx
    obtain ⟨xs, h1, h2⟩ := hxs _ _ hl hall
    refine ⟨xs, ?_, by rw [h1] at hl; simpa using hl, h2⟩
    rw [← h1]
theorem two_of {xs : List Int} (h : xs.length = 2) : ∃ x y, xs = [x, y] := by
  match xs, h with
  | [x, y], _ => exact ⟨x, y, rfl⟩
end
end Go.Proofs.Ytmpihllcmdgapaa

/- A slice of structs that came in, over any program: each field of one cell; every element with a reading of each of its fields. -/
namespace Go.Proofs.Ytmpihllcmdgapaa
open Go.ChangeShapes Go.WideShapes Go.ChangeAt Go.RowKit Go.Deep

section
variable {H : Type} {enc : TypeId × Value → H} {P : Program} {W : World} {base : Nat}

/-- A slice of structs, opened: what each cell of each element holds, and that it reads. -/
theorem open_structs {t e : TypeId} {fs : Array Field} {v : Value} {d : DataW H} {ps : List MemPlace} (ht : P.underlying t = some (.slice e)) (he : P.underlying e = some (.struct fs))
    (hone : ∀ (i : Nat) (f : Field), fs[i]? = some f → f.offset = i ∧ P.cellsOf f.type = 1) (hC : P.cellsOf e = fs.size) (hpos : 0 < fs.size)
    (hv : Value.okWide P W .any base t v) (h : DataW.Trod enc P W 0 (fun _ => true) true t v d ps) :
    ∃ (A : Option Addr) (n c : Nat) (V : Nat → Nat → Value), v = .slice A n c ∧ (A = none → c = 0) ∧ n ≤ maxLen ∧ (0 < n → ∃ b o, A = some ⟨b, o, none⟩ ∧ b < W.heap.size ∧
      ∀ j, j < n → ∀ i f, fs[i]? = some f → W.cell? ⟨b, o + j * fs.size + i, none⟩ = some (V j i) ∧ ∃ fuel y, DataW.trod enc P W 0 (fun _ => true) true fuel f.type [V j i] = some y) := by
  obtain ⟨a0, len, cap, rfl⟩ := okWide_slice ht hv
  obtain ⟨fuel, hf⟩ := h
  rcases open_slice ht hf with ⟨hcs, _⟩ | ⟨a, len', cap', m, n, D, Pl, hcs, hb, hl, hm, hmm, _, hx⟩
  · simp [Value.cells] at hcs
    obtain ⟨rfl, rfl, rfl⟩ := hcs
    exact ⟨none, 0, 0, fun _ _ => undef, rfl, fun _ => rfl, Nat.zero_le _, fun h => absurd h (by omega)⟩
  · simp [Value.cells] at hcs
    obtain ⟨rfl, rfl, rfl⟩ := hcs
    simp only [if_true] at hmm
    subst hmm
    have each : ∀ j, j < m → ∃ cs' : List Value, W.cells? 0 (a.add (j * fs.size)) fs.size = some cs' ∧ DataW.trod enc P W 0 (fun _ => true) true n e cs' = some (D j, Pl j) := by
      intro j hj
      obtain ⟨cs', h1, h2⟩ := hx j hj
      rw [hC] at h1
      exact ⟨cs', h1, h2⟩
    obtain ⟨q, hq⟩ := choose_lt each
    refine ⟨some a, len, m, fun j i => (q j).getD i undef, rfl, (fun h => by cases h), Nat.le_trans hl hm, fun hn => ?_⟩
    obtain ⟨b, o, spot⟩ := a
    have hcell := fun j (hj : j < m) => (World.cells?_some (hq j hj).1).2
    have h0 := (hcell 0 (by omega)).2 0 hpos
    rw [List.getElem?_eq_getElem (by rw [(hcell 0 (by omega)).1]; exact hpos)] at h0
    have hspot : spot = none := by simpa [Addr.add] using World.cell?_spot h0
    subst hspot
    have h0' := World.block_lt_of_cell? W _ h0
    refine ⟨b, o, rfl, by simpa [Addr.add] using h0', fun j hj i f hi => ?_⟩
    have hjm : j < m := by omega
    obtain ⟨hlen, hc⟩ := hcell j hjm
    have hlt : i < fs.size := (Array.getElem?_eq_some_iff.1 hi).1
    obtain ⟨xs, k, _, _, _, hxl, hf'⟩ := DataW.trod_struct he (hq j hjm).2
    obtain ⟨ho, hc1⟩ := hone i f hi
    have g := hf' i f hi
    rw [ho, hc1, take1_drop (q j) i undef (by omega)] at g
    refine ⟨?_, k, ?_⟩
    · have := hc i hlt
      rw [add_add, add_plain, List.getElem?_eq_getElem (by omega)] at this
      rw [Nat.add_assoc, this]
      simp [List.getD, List.getElem?_eq_getElem (show i < (q j).length by omega)]
    · rw [List.getElem?_eq_getElem (show i < xs.length by omega)] at g
      exact ⟨_, g⟩

/-- The same, with its capacity. -/
theorem open_structs2 {t e : TypeId} {fs : Array Field} {v : Value} {d : DataW H} {ps : List MemPlace} (ht : P.underlying t = some (.slice e)) (he : P.underlying e = some (.struct fs))
    (hone : ∀ (i : Nat) (f : Field), fs[i]? = some f → f.offset = i ∧ P.cellsOf f.type = 1) (hC : P.cellsOf e = fs.size) (hpos : 0 < fs.size)
    (hv : Value.okWide P W .any base t v) (h : DataW.Trod enc P W 0 (fun _ => true) true t v d ps) :
    ∃ (A : Option Addr) (n c : Nat) (V : Nat → Nat → Value), v = .slice A n c ∧ (A = none → c = 0) ∧ n ≤ c ∧ c ≤ maxLen ∧ (0 < n → ∃ b o, A = some ⟨b, o, none⟩ ∧ b < W.heap.size ∧
      ∀ j, j < n → ∀ i f, fs[i]? = some f → W.cell? ⟨b, o + j * fs.size + i, none⟩ = some (V j i) ∧ ∃ fuel y, DataW.trod enc P W 0 (fun _ => true) true fuel f.type [V j i] = some y) := by
  obtain ⟨a0, len, cap, rfl⟩ := okWide_slice ht hv
  obtain ⟨fuel, hf⟩ := h
  rcases open_slice ht hf with ⟨hcs, _⟩ | ⟨a, len', cap', m, n, D, Pl, hcs, hb, hl, hm, hmm, _, hx⟩
  · simp [Value.cells] at hcs
    obtain ⟨rfl, rfl, rfl⟩ := hcs
    exact ⟨none, 0, 0, fun _ _ => undef, rfl, fun _ => rfl, Nat.le_refl _, Nat.zero_le _, fun h => absurd h (by omega)⟩
  · simp [Value.cells] at hcs
    obtain ⟨rfl, rfl, rfl⟩ := hcs
    simp only [if_true] at hmm
    subst hmm
    have each : ∀ j, j < m → ∃ cs' : List Value, W.cells? 0 (a.add (j * fs.size)) fs.size = some cs' ∧ DataW.trod enc P W 0 (fun _ => true) true n e cs' = some (D j, Pl j) := by
      intro j hj
      obtain ⟨cs', h1, h2⟩ := hx j hj
      rw [hC] at h1
      exact ⟨cs', h1, h2⟩
    obtain ⟨q, hq⟩ := choose_lt each
    refine ⟨some a, len, m, fun j i => (q j).getD i undef, rfl, (fun h => by cases h), hl, hm, fun hn => ?_⟩
    obtain ⟨b, o, spot⟩ := a
    have hcell := fun j (hj : j < m) => (World.cells?_some (hq j hj).1).2
    have h0 := (hcell 0 (by omega)).2 0 hpos
    rw [List.getElem?_eq_getElem (by rw [(hcell 0 (by omega)).1]; exact hpos)] at h0
    have hspot : spot = none := by simpa [Addr.add] using World.cell?_spot h0
    subst hspot
    have h0' := World.block_lt_of_cell? W _ h0
    refine ⟨b, o, rfl, by simpa [Addr.add] using h0', fun j hj i f hi => ?_⟩
    have hjm : j < m := by omega
    obtain ⟨hlen, hc⟩ := hcell j hjm
    have hlt : i < fs.size := (Array.getElem?_eq_some_iff.1 hi).1
    obtain ⟨xs, k, _, _, _, hxl, hf'⟩ := DataW.trod_struct he (hq j hjm).2
    obtain ⟨ho, hc1⟩ := hone i f hi
    have g := hf' i f hi
    rw [ho, hc1, take1_drop (q j) i undef (by omega)] at g
    refine ⟨?_, k, ?_⟩
    · have := hc i hlt
      rw [add_add, add_plain, List.getElem?_eq_getElem (by omega)] at this
      rw [Nat.add_assoc, this]
      simp [List.getD, List.getElem?_eq_getElem (show i < (q j).length by omega)]
    · rw [List.getElem?_eq_getElem (show i < xs.length by omega)] at g
      exact ⟨_, g⟩

/-- A cell that reads as an integer. -/
theorem cell_int {t : TypeId} {k : IntKind} {v : Value} {fuel : Nat} {y : DataW H × List MemPlace} (ht : P.underlying t = some (.int k)) (h : DataW.trod enc P W 0 (fun _ => true) true fuel t [v] = some y) : ∃ x, v = .int k x ∧ (Lit.int k x).wf = true := by
  obtain ⟨a, h1, _, h2⟩ := DataW.trod_int ht h
  simp at h1
  exact ⟨a, h1, h2⟩

/-- A cell that reads as a slice of integers. -/
theorem cell_row {t e : TypeId} {k : IntKind} {v : Value} {fuel : Nat} {y : DataW H × List MemPlace} (ht : P.underlying t = some (.slice e)) (he : P.underlying e = some (.int k)) (hc : P.cellsOf e = 1) (h : DataW.trod enc P W 0 (fun _ => true) true fuel t [v] = some y) :
    ∃ A n c xs, v = .slice A n c ∧ Row k W W.heap.size A n xs ∧ (A = none → c = 0) ∧ ∀ x ∈ xs, (Lit.int k x).wf = true := by
  rcases open_ints ht he hc h with ⟨hcs, hx⟩ | ⟨a, len', cap', zs, hcs, _, hl, hm, hz, hx, hcell, hwz⟩
  · simp at hcs
    exact ⟨none, 0, 0, [], hcs, Row.none_, fun _ => rfl, by simp⟩
  · simp at hcs
    exact ⟨some a, len', cap', zs.take len', hcs, row_of_open (by simp at hz; omega) hcell, (fun h => by cases h), fun x hx => hwz x (List.mem_of_mem_take hx)⟩
end

/-- A list of what is chosen at each index. -/
theorem list_of {α : Type} [Inhabited α] {n : Nat} {p : Nat → α → Prop} (h : ∀ i, i < n → ∃ x, p i x) : ∃ l : List α, l.length = n ∧ ∀ i x, l[i]? = some x → p i x := by
  obtain ⟨f, hf⟩ := choose_lt h
  refine ⟨(List.range n).map f, by simp, fun i x hx => ?_⟩
  have hi : i < n := by
    have := (List.getElem?_eq_some_iff.1 hx).1
    simpa using this
  simp [hi] at hx
  subst hx
  exact hf i hi
end Go.Proofs.Ytmpihllcmdgapaa

/- A slice of samples that came in, opened. -/
namespace Go.Proofs.Ytmpihllcmdgapaa.Smp
open Go.ChangeShapes Go.WideShapes Go.ChangeAt Go.RowKit Go.Deep

set_option maxRecDepth 100000 in
theorem open_samples {H : Type} {enc : TypeId × Value → H} {W : World} {base : Nat} {v : Value} {d : DataW H} {ps : List MemPlace} (hv : Value.okWide Try.prog W .any base 22 v) (h : DataW.Trod enc Try.prog W 0 (fun _ => true) true 22 v d ps) :
    ∃ A n c ss, v = .slice A n c ∧ SRow W W.heap.size A n ss ∧ (A = none → c = 0) ∧ n ≤ c ∧ c ≤ maxLen := by
  obtain ⟨A, n, c, V, rfl, hnil, hnc, hmax, hx⟩ := open_structs2 Try.underlying22 Try.underlying38 (hone_of (by kernel_rfl)) (by kernel_rfl) (by decide) hv h
  have each : ∀ j, j < n → ∃ s : S, s.ok ∧ ∀ i, i < 3 → some (V j i) = s.cells[i]? := by
    intro j hj
    obtain ⟨b, o, _, _, hc⟩ := hx (by omega)
    obtain ⟨_, _, _, t0⟩ := hc j hj 0 _ rfl
    obtain ⟨_, _, _, t1⟩ := hc j hj 1 _ rfl
    obtain ⟨_, _, _, t2⟩ := hc j hj 2 _ rfl
    obtain ⟨x0, e0, w0⟩ := cell_int Try.underlying3 t0
    obtain ⟨x1, e1, w1⟩ := cell_int Try.underlying3 t1
    obtain ⟨x2, e2, w2⟩ := cell_int Try.underlying3 t2
    have b0 := bounds_i64 w0
    have b1 := bounds_i64 w1
    have b2 := bounds_i64 w2
    refine ⟨⟨x0, x1, x2⟩, ⟨b0.1, b0.2, b1.1, b1.2, b2.1, b2.2⟩, fun i hi => ?_⟩
    match i, hi with
    | 0, _ => rw [e0]; rfl
    | 1, _ => rw [e1]; rfl
    | 2, _ => rw [e2]; rfl
  obtain ⟨ss, hl, hp⟩ := list_of each
  refine ⟨A, n, c, ss, rfl, ⟨hl, fun s hs => ?_, fun hn => ?_⟩, hnil, hnc, hmax⟩
  · obtain ⟨j, hj⟩ := List.getElem?_of_mem hs
    exact (hp j s hj).1
  · obtain ⟨b, o, e, hb, hc⟩ := hx hn
    refine ⟨b, o, e, hb, fun j s hj i hi => ?_⟩
    have hjn : j < n := by
      have := (List.getElem?_eq_some_iff.1 hj).1
      omega
    rw [← (hp j s hj).2 i hi]
    match i, hi with
    | 0, _ => exact (hc j hjn 0 _ rfl).1
    | 1, _ => exact (hc j hjn 1 _ rfl).1
    | 2, _ => exact (hc j hjn 2 _ rfl).1
end Go.Proofs.Ytmpihllcmdgapaa.Smp
