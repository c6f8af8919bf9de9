/- Lemmas that the proof stands on, in build order: SmpU TrcU TrcL TrcG SmpE TrcA TrcH TrcR TrcS TrcW Shut. -/
import Derived.Lib.MinMax
import Derived.RegionTactic
import Derived.Deep.RegionHeld3
import Derived.BigQuiet
import Derived.Deep.QuietTactic
import Derived.WalkKit
import Derived.ProofKit
import Derived.OpenShut
import Derived.Carry
import Derived.JoinedCond
import Derived.Test.YtmpihllcmdgapaaJ13351f8
import Derived.Test.YtmpihllcmdgapaaJ2b065c4
import Derived.Test.YtmpihllcmdgapaaJ349813e
import Derived.Test.YtmpihllcmdgapaaJ557df74
/- Layer 5 (sample): the reference's Take, as a contract. -/
namespace Go.Proofs.Ytmpihllcmdgapaa.Smp
open Go.RowKit Var Fld

section
variable {g N n c at_ : Nat} {A : Option Addr} {bs xs : List Int} {w : World}
theorem refT (h : Rfr w g N A n c bs at_ 0) (hx : bs.drop at_ = xs) : Calls Try.prog 33 #[.pointer (some ⟨g, 0, none⟩), .int .i64 1099511627776] w fun r w' =>
    r = .returned (.int .i64 (tT xs)) ∧ (∃ at1, Rfr w' g N A n c bs at1 (r1 xs).2 ∧ bs.drop at1 = (r1 xs).1) ∧ Only (fun k => k = g) w w' := by
  have := refnum_any g N n c at_ 0 A bs 1099511627776 w h (by omega) (by omega)
  rw [hx] at this
  refine this.mono ?_
  rintro r w' ⟨a, ⟨at1, b, d⟩, e⟩
  rw [hx] at b d
  exact ⟨a, ⟨at1, b, d⟩, e⟩
theorem refX (h : Rfr w g N A n c bs at_ (r1 xs).2) (hx : bs.drop at_ = (r1 xs).1) : Calls Try.prog 59 #[.pointer (some ⟨g, 0, none⟩), .int .i64 67108864] w fun r w' =>
    r = .returned (.int .i64 (tX xs)) ∧ (∃ at1, Rfr w' g N A n c bs at1 (r2 xs).2 ∧ bs.drop at1 = (r2 xs).1) ∧ Only (fun k => k = g) w w' := by
  have := refsgn_any g N n c at_ (r1 xs).2 A bs 67108864 w h (by omega) (by omega)
  rw [hx] at this
  refine this.mono ?_
  rintro r w' ⟨a, ⟨at1, b, d⟩, e⟩
  rw [hx] at b d
  exact ⟨a, ⟨at1, b, d⟩, e⟩
theorem refY (h : Rfr w g N A n c bs at_ (r2 xs).2) (hx : bs.drop at_ = (r2 xs).1) : Calls Try.prog 59 #[.pointer (some ⟨g, 0, none⟩), .int .i64 67108864] w fun r w' =>
    r = .returned (.int .i64 (tY xs)) ∧ (∃ at1, Rfr w' g N A n c bs at1 (r3 xs).2 ∧ bs.drop at1 = (r3 xs).1) ∧ Only (fun k => k = g) w w' := by
  have := refsgn_any g N n c at_ (r2 xs).2 A bs 67108864 w h (by omega) (by omega)
  rw [hx] at this
  refine this.mono ?_
  rintro r w' ⟨a, ⟨at1, b, d⟩, e⟩
  rw [hx] at b d
  exact ⟨a, ⟨at1, b, d⟩, e⟩
end

/-- The reference's Take on its way. -/
structure USt (w0 w : World) (base g ga : Nat) (A : Option Addr) (n c : Nat) (bs : List Int) (acc : List S) (v : Value) (at_ : Nat) : Prop where
  rf : Rfr w g w0.heap.size A n c bs at_ 0
  la : w.heap[ga]? = some (.cells (las acc).cells 38 (0, 0))
  own : w.ownsRow base 38 3 v acc.length (flat acc)
  g1 : w0.heap.size ≤ g
  g2 : g < ga
  g3 : ga < base
  bs : base ≤ w.heap.size
  bel : Below w0.heap.size w0 w

theorem reftk_bd {bs : List Int} {q at_ : Nat} {acc : List S} (hb : ∀ x ∈ bs, 0 ≤ x ∧ x ≤ 255) (hat : at_ ≤ bs.length) (h : tk q [] bs = (acc, bs.drop at_, 0)) : at_ = (enc acc).length := by
  have := (tk_ok q [] bs hb good_nil (by rw [h])).2.2
  rw [h] at this
  have hl := congrArg List.length this
  simp [enc, encF] at hl
  have e : (enc acc).length = (encF zS acc).length := rfl
  omega

set_option maxHeartbeats 3200000 in
set_option maxRecDepth 100000 in
theorem reftake_any (A : Option Addr) (n c : Nat) (bs : List Int) (k : Int) (w : World) (h : Row .u8 w w.heap.size A n bs) (hnil : A = none → c = 0) (hnc : n ≤ c) (hn : n ≤ 4398046511104) (hbyt : ∀ x ∈ bs, 0 ≤ x ∧ x ≤ 255) :
    Calls Try.prog 34 #[.slice A n c, .int .i64 k] w (TakeTo bs k w) := by
  have H := Lib.hid h
  have HNIL := Lib.hid hnil
  have HN := Lib.hid hn
  have HNC := Lib.hid hnc
  have HY := Lib.hid hbyt
  clear h hnil hn hbyt hnc
  by_cases hbad : k < 0 ∨ 2048 < k
  · have he : tkE bs k = 3 := by unfold tkE; rw [if_pos hbad]
    by_cases h0 : k < 0
    · have hd0 : decide (k < 0) = true := decide_eq_true h0
      go_enter Try.func34, Try.ntmps34
      go_wp2
      go_ret3
      exact takeTo_no (e := 3) he (by omega) (Below.refl _ _)
    · have hd0 : decide (k < 0) = false := decide_eq_false h0
      have hd1 : decide (2048 < k) = true := decide_eq_true (by omega)
      go_enter Try.func34, Try.ntmps34
      go_wp2
      go_ret3
      exact takeTo_no (e := 3) he (by omega) (Below.refl _ _)
  · obtain ⟨q, rfl⟩ := Int.eq_ofNat_of_zero_le (show 0 ≤ k by omega)
    have hq : q ≤ 2048 := by omega
    have heE : tkE bs (q : Int) = (tk q [] bs).2.2 := by unfold tkE; rw [if_neg hbad]; rfl
    have HEE := Lib.hid heE
    clear heE hbad
    have hd0 : decide ((q : Int) < 0) = false := decide_eq_false (by omega)
    have hd1 : decide (2048 < (q : Int)) = false := decide_eq_false (by omega)
    go_enter Try.func34, Try.ntmps34
    go_wp2_with fail
    refine (refread_any A n c bs w.heap.size w H.out (Nat.le_refl _) HNC.out HNIL.out HN.out HY.out).mono ?_
    rintro e1 w1 ⟨rfl, hrf, hb1⟩
    have HRF := Lib.hid hrf
    have HB1 := Lib.hid hb1
    have hgl := hrf.lt
    clear hrf hb1
    go_wp2
    go_loopw [8, 10] (fun vo i wr => ∃ (m : Nat) (acc : List S) (at_ : Nat), m ≤ q ∧ i = .int .i64 (m : Int) ∧ acc.length = m ∧ Hid (good acc = true) ∧ Hid (USt w wr (w1.heap.size + 1) w.heap.size w1.heap.size A n c bs acc vo at_) ∧ Hid (tk (q - m) acc (bs.drop at_) = tk q [] bs)) (fun _ i _ => q - (intOf i).toNat)
    case atStart =>
      refine ⟨0, [], 0, Nat.zero_le _, rfl, rfl, rfl, ⟨HRF.out.only (M := fun _ => False) (Only.alloc _ _) (fun h => h) (fun _ _ h => h), heap_alloc_new w1 _, World.ownsRow_nil _ _ _ _, Nat.le_refl _, hgl, by omega, by simp, HB1.out.alloc HB1.out.size _⟩, rfl⟩
    case round =>
      obtain ⟨m, acc, at_, hm, rfl, hacc, HG, HU, HT⟩ := hrel
      by_cases hlt : m < q
      · have htk : tk (q - m) acc (bs.drop at_) = if (r3 (bs.drop at_)).2 ≠ 0 then ([], [], (r3 (bs.drop at_)).2) else if okp acc (nx acc (bs.drop at_)) = true then tk (q - (m + 1)) (acc ++ [nx acc (bs.drop at_)]) (r3 (bs.drop at_)).1 else ([], [], 2) := by
          rw [show q - m = (q - (m + 1)) + 1 by omega]
          rfl
        obtain ⟨xs, hx⟩ : ∃ xs, bs.drop at_ = xs := ⟨_, rfl⟩
        have hbx : ∀ y ∈ xs, 0 ≤ y ∧ y ≤ 255 := fun y hy => HY.out y (List.mem_of_mem_drop (by rw [hx]; exact hy))
        have HTK := Lib.hid (HT.out.symm.trans htk)
        rw [hx] at HTK
        have HX := Lib.hid hx
        have HBX := Lib.hid hbx
        have hmw : IntKind.i64.wrap ((m : Int) + 1) = (m : Int) + 1 := IntWalk.i64_in _ ⟨by omega, by omega⟩
        have HACC := Lib.hid hacc
        clear htk HT hx hbx hacc
        go_wp2_with fail
        refine (refT HU.out.rf HX.out).mono ?_
        rintro e2 w2 ⟨rfl, ⟨at1, hr1, hx1⟩, ho1⟩
        have HR1 := Lib.hid hr1
        have HX1 := Lib.hid hx1
        have HO1 := Lib.hid ho1
        clear hr1 hx1 ho1
        go_wp2_with fail
        refine (refX HR1.out HX1.out).mono ?_
        rintro e3 w3 ⟨rfl, ⟨at2, hr2, hx2⟩, ho2⟩
        have HR2 := Lib.hid hr2
        have HX2 := Lib.hid hx2
        have HO2 := Lib.hid (HO1.out.trans ho2 (fun _ _ h => h))
        clear hr2 hx2 ho2
        go_wp2_with fail
        refine (refY HR2.out HX2.out).mono ?_
        rintro e4 w4 ⟨rfl, ⟨at3, hr3, hx3⟩, ho3⟩
        have HR3 := Lib.hid hr3
        have HX3 := Lib.hid hx3
        have HO3 := Lib.hid (HO2.out.trans ho3 (fun _ _ h => h))
        have b2 := hr3.rf.c2
        have hg2 := HU.out.g2
        have hgb := HU.out.bs
        have HLA := Lib.hid (HO3.out.at HU.out.la (by omega))
        have HOW := Lib.hid (own3_only HU.out.own HO3.out (fun i hi h => by have := (own3_lt HU.out.own hi).1; omega))
        have HBE : Hid (Below w.heap.size w w4) := HU.out.bel.trans (HO3.out.below HU.out.bel.size (fun i hi => by omega))
        have hs4 := HO3.out.size
        clear hr3 hx3 ho3 HO1 HO2 HR1 HX1 HR2 HX2
        by_cases her : (r3 xs).2 = 0
        · have hez : (((r3 xs).2 : Int) == 0) = true := beq_iff_eq.2 (by omega)
          obtain ⟨-, t1, t2, t3, t4, t5, t6⟩ := trip_ok HBX.out her
          have hla : 0 ≤ (las acc).t ∧ (las acc).t ≤ 1099511627776 ∧ 0 ≤ (las acc).x ∧ (las acc).x < 67108864 ∧ 0 ≤ (las acc).y ∧ (las acc).y < 67108864 := by
            rcases las_may (l := acc) (fun u hu => good_may HG.out hu) with ha | ha
            · exact may_iff.1 ha
            · rw [ha]; unfold zS; simp
          obtain ⟨s, hs⟩ : ∃ s, nx acc xs = s := ⟨_, rfl⟩
          have v1 : IntKind.i64.wrap ((las acc).t + tT xs) = s.t := (IntWalk.i64_in _ ⟨by omega, by omega⟩).trans (by rw [← hs]; rfl)
          have v2 : IntKind.i64.wrap ((las acc).x + tX xs) = s.x := (IntWalk.i64_in _ ⟨by omega, by omega⟩).trans (by rw [← hs]; rfl)
          have v3 : IntKind.i64.wrap ((las acc).y + tY xs) = s.y := (IntWalk.i64_in _ ⟨by omega, by omega⟩).trans (by rw [← hs]; rfl)
          have hst : s.t = (las acc).t + tT xs := by rw [← hs]; rfl
          have HST := Lib.hid hst
          have HT0 := Lib.hid t1
          rw [hs, if_neg (by rw [her]; simp)] at HTK
          rw [her] at HR3 b2
          clear hla t1 t2 t3 t4 t5 t6 hst hs
          obtain ⟨⟨y0, y1, y2⟩, f0, f1, f2⟩ := three HLA.out
          obtain ⟨⟨g1, e1⟩, ⟨g2, e2⟩, hq, hO⟩ := sets (s := s) HLA.out
          obtain ⟨⟨z0, z1, z2⟩, -⟩ := three hq
          have HLA' := Lib.hid hq
          have HOW' := Lib.hid (own3_only HOW.out hO (fun i hi h => by have := (own3_lt HOW.out hi).1; omega))
          have HRF' := Lib.hid (HR3.out.only hO (by omega) (fun i hi => by omega))
          have HBE' : Hid (Below w.heap.size w (((w4.setCell ⟨w1.heap.size, 0, none⟩ (.int .i64 s.t)).setCell ⟨w1.heap.size, 1, none⟩ (.int .i64 s.x)).setCell ⟨w1.heap.size, 2, none⟩ (.int .i64 s.y))) := HBE.out.trans (hO.below HBE.out.size (fun i hi => by omega))
          have hs5 := hO.size
          clear hq hO
          go_wp2_with fail
          refine (refmay_on s _).mono ?_
          rintro e5 w5 ⟨rfl, hb5⟩
          have HLA5 := Lib.hid ((hb5.block _ (Array.getElem?_eq_some_iff.1 HLA'.out).1).trans HLA'.out)
          have HOW5 := Lib.hid (own3_only HOW'.out (M := fun _ => False) (Only.of_below hb5) (fun _ _ h => h))
          have HRF5 := Lib.hid (HRF'.out.only (M := fun _ => False) (Only.of_below hb5) (fun h => h) (fun _ _ h => h))
          have HBE5 := Lib.hid (HBE'.out.trans (hb5.mono HBE'.out.size))
          have hs6 := hb5.size
          have hs7 : w1.heap.size + 1 ≤ w5.heap.size := by omega
          clear hb5 HLA' HOW' HRF' HBE' y0 y1 y2 f0 f1 f2 g1 e1 g2 e2 z0 z1 z2 HLA HOW HR3 HBE hs4 hs5 hs6
          cases hms : may s with
          | false =>
            have hokp : okp acc s = false := by unfold okp; rw [hms]; rfl
            have he : tkE bs (q : Int) = 2 := by rw [HEE.out, HTK.out, if_neg (by rw [hokp]; simp)]
            go_wp2
            go_ret3
            exact takeTo_no (e := 2) he (by omega) HBE5.out
          | true =>
            by_cases hbad : m ≠ 0 ∧ tT xs = 0
            · have hk0 : 0 < m := by omega
              have hz2 : (tT xs == 0) = true := beq_iff_eq.2 hbad.2
              have hokp : okp acc s = false := by
                have := HST.out
                unfold okp
                rw [hms, HACC.out, decide_eq_false (show ¬ m = 0 by omega), decide_eq_false (show ¬ (las acc).t < s.t by omega)]
                rfl
              have he : tkE bs (q : Int) = 2 := by rw [HEE.out, HTK.out, if_neg (by rw [hokp]; simp)]
              go_wp2
              go_ret3
              exact takeTo_no (e := 2) he (by omega) HBE5.out
            · have hokp : okp acc s = true := by
                have := HST.out
                have := HT0.out
                unfold okp
                rw [hms, HACC.out]
                by_cases h0 : m = 0
                · simp [h0]
                · simp; omega
              have HOK := Lib.hid hokp
              obtain ⟨i0, hi, hz0, hz1, hz2⟩ := info_parts info_smp
              obtain ⟨⟨m0, m1, m2⟩, -⟩ := three HLA5.out
              obtain ⟨A', c', rfl, -⟩ := own3_slice HOW5.out
              have HDO1 : Hid ((w5.alloc (.cells #[.int .i64 s.t, .int .i64 s.x, .int .i64 s.y] 38)).ownsRow (w1.heap.size + 1) 38 3 (.slice A' acc.length c') acc.length (flat acc)) := own3_only HOW5.out (Only.alloc (M := fun _ => False) w5 _) (fun _ _ h => h)
              have HNEW := Lib.hid (new3 w5 s 38)
              have hl2 : acc.length ≤ 2048 := by have := HACC.out; omega
              clear hokp
              by_cases h0 : m = 0
              case' pos =>
                have hd2 : decide (0 < m) = false := decide_eq_false (by omega)
                clear hbad h0
                go_wp2_with (at_builtin; refine wpList_append_own _ rfl (.tmp 67) (.tmp 69) 22 rfl (w1.heap.size + 1) 38 i0 (.agg #[.int .i64 0, .int .i64 0, .int .i64 0]) 3 24 Try.underlying22 hi hz0 hz1 hz2 rfl (by decide) _ acc.length (flat acc) rfl HDO1.out ⟨w5.heap.size, 0, none⟩ 1 1 [.int .i64 s.t, .int .i64 s.x, .int .i64 s.y] rfl rfl HNEW.out (by intro u hu; simp at hu; rcases hu with rfl | rfl | rfl <;> rfl) (by unfold maxLen; omega) (by omega) (by simp; omega) ?_; intro v1 wA hown1 hgrow _; have HO1 := Lib.hid hown1; have HGR := Lib.hid hgrow; clear hown1 hgrow)
              case' neg =>
                have hk0 : 0 < m := by omega
                have hz3 : (tT xs == 0) = false := beq_eq_false_iff_ne.2 (by omega)
                clear hbad h0
                go_wp2_with (at_builtin; refine wpList_append_own _ rfl (.tmp 67) (.tmp 69) 22 rfl (w1.heap.size + 1) 38 i0 (.agg #[.int .i64 0, .int .i64 0, .int .i64 0]) 3 24 Try.underlying22 hi hz0 hz1 hz2 rfl (by decide) _ acc.length (flat acc) rfl HDO1.out ⟨w5.heap.size, 0, none⟩ 1 1 [.int .i64 s.t, .int .i64 s.x, .int .i64 s.y] rfl rfl HNEW.out (by intro u hu; simp at hu; rcases hu with rfl | rfl | rfl <;> rfl) (by unfold maxLen; omega) (by omega) (by simp; omega) ?_; intro v1 wA hown1 hgrow _; have HO1 := Lib.hid hown1; have HGR := Lib.hid hgrow; clear hown1 hgrow)
              all_goals
                have oA := Only.of_grown HGR.out
                have hvlt : ∀ i, (Value.slice A' acc.length c').ownBlock = some i → w1.heap.size + 1 ≤ i := fun i hi => (own3_lt HOW5.out hi).1
                have hb6 : Below w.heap.size w wA := (HBE5.out.alloc HBE5.out.size _).trans (oA.below (by simp; have := HBE5.out.size; omega) (fun i hi => by have := hvlt i hi; omega))
                have HU6 : Hid (USt w wA (w1.heap.size + 1) w.heap.size w1.heap.size A n c bs (acc ++ [s]) v1 at3) := by
                  refine ⟨(HRF5.out.only (M := fun _ => False) (Only.alloc _ _) (fun h => h) (fun _ _ h => h)).only oA (fun h => by have := hvlt _ h; omega) (fun i hi h => by have := hvlt i h; omega), ?_, ?_, HU.out.g1, HU.out.g2, HU.out.g3, Nat.le_trans hs7 (Nat.le_trans (by simp) oA.size), hb6⟩
                  · rw [las_snoc]
                    exact oA.at (alloc_old w5 _ HLA5.out) (fun h => by have := hvlt _ h; omega)
                  · rw [flat_snoc, List.length_append]
                    exact HO1.out
                have HT6 : Hid (tk (q - (m + 1)) (acc ++ [s]) (bs.drop at3) = tk q [] bs) := by
                  have := HTK.out
                  rw [if_pos HOK.out] at this
                  unfold Hid
                  rw [HX3.out]
                  exact this.symm
                clear oA hvlt hb6
                go_wp2
                go_roundw
                case' rel => exact ⟨m + 1, acc ++ [s], at3, by omega, by go_num, by simp [HACC.out], good_snoc HG.out HOK.out, HU6.out, HT6.out⟩
                case' measure => simp [intOf]; omega
        · have hez : (((r3 xs).2 : Int) == 0) = false := beq_eq_false_iff_ne.2 (by omega)
          have he : tkE bs (q : Int) = (r3 xs).2 := by rw [HEE.out, HTK.out, if_pos her]
          have HE := Lib.hid he
          have HER := Lib.hid her
          clear he her
          go_wp2_with fail
          go_quiet (fail)
          go_wp2
          go_ret3
          exact takeTo_no HE.out HER.out ⟨HBE.out.os, HBE.out.tape, HBE.out.output, HBE.out.size, HBE.out.block⟩
      · have hmq : m = q := by omega
        subst hmq
        have t1 := HU.out.rf.rf.c1
        go_wp2_with fail
        go_quiet (fail)
        go_wp2
        go_ret3
        have htk : tk m [] bs = (acc, bs.drop at_, 0) := by
          rw [← HT.out, Nat.sub_self]
          rfl
        have hat := reftk_bd HY.out (by rw [H.out.len]; exact HU.out.rf.le) htk
        have e1 : tkE bs (m : Int) = 0 := HEE.out.trans (by rw [htk])
        have e2 : tkL bs (m : Int) = acc := by unfold tkL; rw [if_pos e1, Int.toNat_natCast, htk]
        have e3 : tkN bs (m : Int) = at_ := by unfold tkN; rw [if_pos e1, Int.toNat_natCast, htk, hat]
        have hb := HU.out.bel
        refine ⟨u8, by rw [e1, e3]; rfl, ?_, ⟨hb.os, hb.tape, hb.output, hb.size, hb.block⟩⟩
        rw [e2]
        exact own3_base (own3_only HU.out.own (M := fun _ => False) ⟨rfl, rfl, rfl, Nat.le_refl _, fun _ _ _ => rfl⟩ (fun _ _ h => h)) (by have := HB1.out.size; omega)
end Go.Proofs.Ytmpihllcmdgapaa.Smp

/- Layer 6 (trace): the reference's Take, as a contract. -/
namespace Go.Proofs.Ytmpihllcmdgapaa.Trc
open Go.RowKit Var Fld Smp Frm Crc Slc

set_option maxHeartbeats 1600000 in
set_option maxRecDepth 100000 in
theorem reftake_any (A : Option Addr) (n c : Nat) (bs : List Int) (w : World) (h : Row .u8 w w.heap.size A n bs) (hnc : n ≤ c) (hn : n ≤ 4398046511104) (hc : c ≤ maxLen) (hbyt : ∀ x ∈ bs, 0 ≤ x ∧ x ≤ 255) :
    Calls Try.prog 10 #[.slice A n c] w (TakeTo bs w) := by
  have HW := Lib.hid (refwhole_any 1 A n c bs w h hbyt hn hnc hc)
  have hwl : (wholly 1 bs).1.length ≤ 1048576 := wholly_len 1 bs
  have HWB : Hid (Byt (wholly 1 bs).1) := wholly_byt hbyt
  obtain ⟨cs, er, HK⟩ : ∃ cs er, Hid (wholly 1 bs = (cs, er)) := ⟨_, _, Lib.hid rfl⟩
  have HT : Hid (trT bs = if er ≠ 0 then ([], er) else inner cs) := by unfold Hid trT; rw [HK.out]
  rw [HK.out] at HW HWB hwl
  clear h hn hc hnc hbyt
  go_enter Try.func10, Try.ntmps10
  go_wp2_with fail
  refine HW.out.mono ?_
  rintro e1 w1 ⟨A1, c1, rfl, hrow1, hb1, hf1⟩
  simp only at hrow1 hf1 hwl HWB
  have HB1 := Lib.hid hb1
  have HO1 := Lib.hid hrow1
  have HI1 := Lib.hid hf1.1
  have HC1 := Lib.hid hf1.2
  clear hrow1 hb1 HW hf1 HK
  by_cases he : er = 0
  case neg =>
    have hb1 : ((er : Int) == 0) = false := beq_eq_false_iff_ne.2 (by omega)
    have hb2 : ((er : Int) != 0) = true := by rw [bne, hb1]; rfl
    have HT' := Lib.hid (HT.out.trans (if_pos he))
    clear he HT
    go_wp2
    go_ret2
    exact takeTo_no HT'.out HB1.out
  case pos =>
    subst he
    have HT' := Lib.hid (HT.out.trans (if_neg (by simp)))
    clear HT
    obtain ⟨N, hN⟩ : ∃ N, cs.length = N := ⟨_, rfl⟩
    rw [hN] at hwl HO1 HC1 ⊢
    have HNN := Lib.hid hN
    clear hN
    go_wp2_with fail
    refine (refread_any A1 N c1 cs w1.heap.size w1 (HO1.out.more HB1.out.size) (Nat.le_refl _) HC1.out HI1.out (by omega) HWB.out).mono ?_
    rintro e2 w2 ⟨rfl, hrf2, hb2⟩
    have HR2 := Lib.hid hrf2
    have HB2 := Lib.hid hb2
    clear hrf2 hb2
    go_wp2_with fail
    refine (refnum_any w1.heap.size w1.heap.size N c1 0 0 A1 cs 2048 w2 HR2.out (by omega) (by omega)).mono ?_
    rintro e3 w3 ⟨rfl, ⟨at1, hrf3, hd3⟩, ho3⟩
    rw [List.drop_zero] at hrf3 hd3 ⊢
    have HR3 := Lib.hid hrf3
    have HB3 := Lib.hid (HB2.out.trans (ho3.below HB2.out.size (fun i hi => by omega)))
    have HD3 := Lib.hid hd3
    clear hrf3 ho3 HR2 HB2 hd3
    obtain ⟨x, sz, en, HX⟩ : ∃ x sz en, Hid (nxt cs 2048 = (x, sz, en)) := ⟨_, _, _, Lib.hid rfl⟩
    rw [HX.out] at HR3 HD3 ⊢
    have hat := HR3.out.le
    by_cases hen : en = 0
    case neg =>
      have hv : val 0 (x, sz, en) = 0 := by unfold val; rw [if_pos (.inr hen)]
      have ha : after cs 0 sz en = (cs, en) := after_er hen
      have hb1 : ((en : Int) == 0) = false := beq_eq_false_iff_ne.2 (by omega)
      have hb2 : ((en : Int) != 0) = true := by rw [bne, hb1]; rfl
      have hin : inner cs = ([], en) := by unfold inner; rw [HX.out]; exact if_pos hen
      have HT2 := Lib.hid (HT'.out.trans hin)
      rw [hv]
      simp only at HR3
      rw [ha] at HR3
      have c2 := HR3.out.rf.c2
      clear hen hv ha hin HT'
      go_wp2_with fail
      go_quiet (fail)
      go_wp2
      go_ret2
      have hb := HB1.out.trans (HB3.out.mono HB1.out.size)
      exact takeTo_no HT2.out ⟨hb.os, hb.tape, hb.output, hb.size, hb.block⟩
    case pos =>
      subst hen
      obtain ⟨x1, x2, x3, x4, x5⟩ := first_num HWB.out HX.out
      have hv : val 0 (x, sz, 0) = x := by unfold val; simp
      have ha : after cs 0 sz 0 = (cs.drop sz, 0) := after_ok
      have hin : inner cs = if tkE (cs.drop sz) x ≠ 0 then ([], tkE (cs.drop sz) x) else if tkN (cs.drop sz) x < (cs.drop sz).length then ([], 13) else (tkL (cs.drop sz) x, 0) := by unfold inner; rw [HX.out]; exact if_neg (by simp)
      have HT2 := Lib.hid (HT'.out.trans hin)
      rw [hv]
      simp only at HR3 HD3
      rw [ha] at HR3 HD3
      rw [HNN.out] at x4
      have hal : at1 = sz := by
        have := congrArg List.length HD3.out
        simp only [List.length_drop, HNN.out] at this
        omega
      subst hal
      have c1' := HR3.out.rf.c1
      have c2 := HR3.out.rf.c2
      clear hv ha hin HT' HX x5
      obtain ⟨b1, o1, rfl, -, -⟩ := HO1.out.cell_at (show 0 < N by omega)
      have hl := HC1.out
      have hrow : Row .u8 w3 w3.heap.size (some ⟨b1, o1 + at1, none⟩) (N - at1) (cs.drop at1) := by
        have h1 := ((HO1.out.more HB1.out.size).below HB3.out).more HB3.out.size
        have h2 := row_sub h1 (lo := at1) (m := N - at1) (by omega)
        rwa [List.take_of_length_le (by rw [List.length_drop, HNN.out]; exact Nat.le_refl _)] at h2
      have hby : ∀ x ∈ cs.drop at1, 0 ≤ x ∧ x ≤ 255 := fun y hy => HWB.out y (List.mem_of_mem_drop hy)
      have hdl : (cs.drop at1).length = N - at1 := hrow.len
      have P : Calls Try.prog 34 #[if c1 = at1 then .slice (some ⟨b1, o1, none⟩) (N - at1) 0 else .slice (some ⟨b1, o1 + at1, none⟩) (N - at1) (c1 - at1), .int .i64 x] w3 (Smp.TakeTo (cs.drop at1) x w3) := by
        by_cases hcs : c1 = at1
        · rw [if_pos hcs]
          exact Smp.reftake_any (some ⟨b1, o1, none⟩) (N - at1) 0 (cs.drop at1) x w3 ⟨hdl, fun h => absurd h (by omega)⟩ (fun h => nomatch h) (by omega) (by omega) hby
        · rw [if_neg hcs]
          exact Smp.reftake_any (some ⟨b1, o1 + at1, none⟩) (N - at1) (c1 - at1) (cs.drop at1) x w3 hrow (fun h => nomatch h) (by omega) (by omega) hby
      unfold Smp.TakeTo at P
      rw [hdl] at HT2
      have HP := Lib.hid P
      have HBY := Lib.hid hby
      have HDL := Lib.hid hdl
      clear P hrow hby hdl HWB HO1 HD3
      generalize cs.drop at1 = ds at HP HT2 HBY HDL
      by_cases hcs : c1 = at1
      case' pos =>
        rw [if_pos hcs] at HP
        go_wp2_with fail
      case' neg =>
        rw [if_neg hcs] at HP
        go_wp2_with fail
      all_goals
        refine HP.out.mono ?_
        rintro e6 w6 ⟨v6, rfl, hown6, hb6⟩
        have HO6 := Lib.hid hown6
        have HB6 := Lib.hid (HB1.out.trans ((HB3.out.trans (hb6.mono HB3.out.size)).mono HB1.out.size))
        have c1'' : w6.cell? ⟨w1.heap.size, 1, none⟩ = some (.int .i64 (at1 : Int)) := cell_of_blk ((hb6.block _ (Array.getElem?_eq_some_iff.1 HR3.out.rf.blk).1).trans HR3.out.rf.blk) rfl
        clear hown6 hb6 HP c1' c2 HR3
        by_cases hte : tkE ds x = 0
        case' neg =>
          have hb1 : ((tkE ds x : Int) == 0) = false := beq_eq_false_iff_ne.2 (by omega)
          have hb2 : ((tkE ds x : Int) != 0) = true := by rw [bne, hb1]; rfl
          have HT3 := Lib.hid (HT2.out.trans (if_pos hte))
          clear hte HT2
          go_wp2
          go_ret2
          exact takeTo_no HT3.out HB6.out
        case' pos =>
          have HT3 := Lib.hid (HT2.out.trans (if_neg (by rw [hte]; simp)))
          have hle := (again HBY.out hte).2.2.2.2.2
          rw [HDL.out] at hle
          have hsum : IntKind.i64.wrap ((at1 : Int) + (tkN ds x : Int)) = (at1 : Int) + (tkN ds x : Int) := IntWalk.i64_in _ ⟨by omega, by omega⟩
          rw [hte]
          clear hte HT2
          by_cases hlt : tkN ds x < N - at1
          case' pos =>
            have HT4 := Lib.hid (HT3.out.trans (if_pos hlt))
            have hlt' : (at1 : Int) + (tkN ds x : Int) < (N : Int) := by omega
            clear HT3
            first
              | (exfalso; omega)
              | (go_wp2
                 go_ret2
                 exact takeTo_no HT4.out HB6.out)
          case' neg =>
            have HT4 := Lib.hid (HT3.out.trans (if_neg hlt))
            have hlt' : ¬ (at1 : Int) + (tkN ds x : Int) < (N : Int) := by omega
            clear HT3
            go_wp2
            go_ret2
            unfold TakeTo
            rw [HT4.out]
            exact ⟨_, rfl, own3_base HO6.out (Nat.le_trans HB1.out.size HB3.out.size), HB6.out⟩
end Go.Proofs.Ytmpihllcmdgapaa.Trc

/- Layer 6 (trace): lengths and gaps: plain mathematics, and the small callees as contracts. -/
namespace Go.Proofs.Ytmpihllcmdgapaa.Trc
open Go.RowKit Var Fld Smp

/-- One step's length; a stretch's; its greatest gap. -/
def dif (a b : Int) : Int := max a b - min a b
def stp (a s : S) : Int := max (dif s.x a.x) (dif s.y a.y)
def nth (l : List S) (k : Nat) : S := l.getD k zS
def len (l : List S) : Nat → Int
  | 0 => 0
  | k + 1 => len l k + stp (nth l k) (nth l (k + 1))
def gap (l : List S) : Nat → Int
  | 0 => 0
  | k + 1 => max (gap l k) ((nth l (k + 1)).t - (nth l k).t)
theorem nth_of {l : List S} {k : Nat} {s : S} (h : l[k]? = some s) : nth l k = s := by unfold nth; simp [List.getD, h]

theorem dif_bd {a b : Int} (h1 : 0 ≤ a) (h2 : a < 67108864) (h3 : 0 ≤ b) (h4 : b < 67108864) : 0 ≤ dif a b ∧ dif a b < 67108864 := by unfold dif; omega
theorem nth_may {l : List S} (h : ∀ s ∈ l, may s = true) (k : Nat) : may (nth l k) = true ∨ nth l k = zS := by
  cases hk : l[k]? with
  | none => exact .inr (by unfold nth; simp [List.getD, hk])
  | some s => exact .inl (by rw [nth_of hk]; exact h s (List.mem_of_getElem? hk))
theorem nth_bd {l : List S} (h : ∀ s ∈ l, may s = true) (k : Nat) : 0 ≤ (nth l k).t ∧ (nth l k).t ≤ 1099511627776 ∧ 0 ≤ (nth l k).x ∧ (nth l k).x < 67108864 ∧ 0 ≤ (nth l k).y ∧ (nth l k).y < 67108864 := by
  rcases nth_may h k with h1 | h1
  · exact may_iff.1 h1
  · rw [h1]; unfold zS; simp
theorem len_bd {l : List S} (h : ∀ s ∈ l, may s = true) : ∀ k : Nat, 0 ≤ len l k ∧ len l k ≤ 67108864 * (k : Int)
  | 0 => by simp [len]
  | k + 1 => by
    have ih := len_bd h k
    have a := nth_bd h k
    have b := nth_bd h (k + 1)
    have d1 := dif_bd (a := (nth l (k + 1)).x) (b := (nth l k).x) (by omega) (by omega) (by omega) (by omega)
    have d2 := dif_bd (a := (nth l (k + 1)).y) (b := (nth l k).y) (by omega) (by omega) (by omega) (by omega)
    have e : len l (k + 1) = len l k + stp (nth l k) (nth l (k + 1)) := rfl
    rw [e]
    unfold stp
    omega
theorem gap_bd {l : List S} (h : ∀ s ∈ l, may s = true) : ∀ k : Nat, 0 ≤ gap l k ∧ gap l k ≤ 1099511627776
  | 0 => by simp [gap]
  | k + 1 => by
    have ih := gap_bd h k
    have a := nth_bd h k
    have b := nth_bd h (k + 1)
    have e : gap l (k + 1) = max (gap l k) ((nth l (k + 1)).t - (nth l k).t) := rfl
    rw [e]
    omega
/-- Two stretches that share a sample. -/
theorem nth_take {l : List S} {m k : Nat} (h : k < m) : nth (l.take m) k = nth l k := by unfold nth; simp [List.getD, h]
theorem nth_drop {l : List S} {m k : Nat} : nth (l.drop m) k = nth l (m + k) := by unfold nth; simp [List.getD]
theorem len_take {l : List S} {m : Nat} : ∀ k : Nat, k < m → len (l.take m) k = len l k
  | 0, _ => rfl
  | k + 1, h => by
    have e : len (l.take m) (k + 1) = len (l.take m) k + stp (nth (l.take m) k) (nth (l.take m) (k + 1)) := rfl
    rw [e, len_take k (by omega), nth_take (by omega), nth_take h]
    rfl
theorem len_add {l : List S} {m : Nat} : ∀ k : Nat, len l m + len (l.drop m) k = len l (m + k)
  | 0 => by simp [len]
  | k + 1 => by
    have e : len (l.drop m) (k + 1) = len (l.drop m) k + stp (nth (l.drop m) k) (nth (l.drop m) (k + 1)) := rfl
    have e2 : len l (m + (k + 1)) = len l (m + k) + stp (nth l (m + k)) (nth l (m + (k + 1))) := rfl
    have := len_add (l := l) (m := m) k
    rw [e, e2, nth_drop, nth_drop]
    omega
/-- In a sequence no gap is greater than all. -/
theorem gap_all {l : List S} (h : good l = true) : ∀ k : Nat, k < l.length → gap l k ≤ (nth l k).t - (nth l 0).t ∧ (nth l 0).t ≤ (nth l k).t
  | 0, _ => by simp [gap]
  | k + 1, hk => by
    have ih := gap_all h k (by omega)
    have e : gap l (k + 1) = max (gap l k) ((nth l (k + 1)).t - (nth l k).t) := rfl
    have hr := good_rise h (List.getElem?_eq_getElem (show k < l.length by omega)) (List.getElem?_eq_getElem hk)
    rw [← nth_of (List.getElem?_eq_getElem (show k < l.length by omega)), ← nth_of (List.getElem?_eq_getElem hk)] at hr
    rw [e]
    omega

set_option maxHeartbeats 400000 in
set_option maxRecDepth 100000 in
theorem apart_any (a b : Int) (ha : 0 ≤ a ∧ a < 67108864) (hb : 0 ≤ b ∧ b < 67108864) (w : World) : Calls Try.prog 38 #[.int .i64 a, .int .i64 b] w fun e w' => e = .returned (.int .i64 (dif a b)) ∧ w' = w := by
  obtain ⟨a1, a2⟩ := ha
  obtain ⟨b1, b2⟩ := hb
  rcases Int.lt_trichotomy a b with hab | hab | hab
  · have hd : dif a b = b - a := by unfold dif; omega
    have h1 : ¬ b < a := by omega
    have h2 : a ≤ b := by omega
    rw [hd]
    go_enter Try.func38, Try.ntmps38
    go_wp2
    go_ret
    exact ⟨ret_int (by omega), rfl⟩
  · subst hab
    have hd : dif a a = 0 := by unfold dif; omega
    have hw : IntKind.i64.wrap 0 = 0 := IntWalk.i64_in _ ⟨by omega, by omega⟩
    rw [hd]
    go_enter Try.func38, Try.ntmps38
    go_wp2
    go_ret
    exact ⟨ret_int (by omega), rfl⟩
  · have hd : dif a b = a - b := by unfold dif; omega
    have h1 : ¬ a < b := by omega
    have h2 : ¬ a ≤ b := by omega
    rw [hd]
    go_enter Try.func38, Try.ntmps38
    go_wp2
    go_ret
    exact ⟨ret_int (by omega), rfl⟩

set_option maxHeartbeats 400000 in
set_option maxRecDepth 100000 in
theorem amount_any (a b : Int) (ha : 0 ≤ a ∧ a < 67108864) (hb : 0 ≤ b ∧ b < 67108864) (w : World) : Calls Try.prog 39 #[.int .i64 (a - b)] w fun e w' => e = .returned (.int .i64 (dif a b)) ∧ w' = w := by
  obtain ⟨a1, a2⟩ := ha
  obtain ⟨b1, b2⟩ := hb
  by_cases hab : a - b < 0
  · have hd : dif a b = - (a - b) := by unfold dif; omega
    have h1 : decide (a - b < 0) = true := decide_eq_true hab
    rw [hd]
    go_enter Try.func39, Try.ntmps39
    go_wp2
    go_ret
    exact ⟨ret_int (by omega), rfl⟩
  · have hd : dif a b = a - b := by unfold dif; omega
    have h1 : decide (a - b < 0) = false := decide_eq_false hab
    rw [hd]
    go_enter Try.func39, Try.ntmps39
    go_wp2
    go_ret
    exact ⟨ret_int (by omega), rfl⟩
end Go.Proofs.Ytmpihllcmdgapaa.Trc

/- Layer 6 (trace): Gap and Length, as contracts. -/
namespace Go.Proofs.Ytmpihllcmdgapaa.Trc
open Go.RowKit Var Fld Smp

theorem max_up {a b c : Int} (h : max a b = c) : (if a < b then b else a) = c := by omega

set_option maxHeartbeats 1600000 in
set_option maxRecDepth 100000 in
theorem gap_any (A : Option Addr) (n c B : Nat) (ss : List S) (w : World) (h : SRow w B A n ss) (hmay : ∀ s ∈ ss, may s = true) (hn : n ≤ 10000) :
    Calls Try.prog 17 #[.slice A n c] w fun e w' => e = .returned (.int .i64 (gap ss (n - 1))) ∧ ∃ q, w' = w.drewN q := by
  have H := Lib.hid h
  have HM := Lib.hid hmay
  clear h hmay
  go_enter Try.func17, Try.ntmps17
  go_wp2
  go_loopw [3, 4] (fun g i wr => ∃ k q : Nat, k ≤ n - 1 ∧ i = .int .i64 ((k : Int) + 1) ∧ g = .int .i64 (gap ss k) ∧ Hid (wr = w.drewN q)) (fun _ i _ => n - (intOf i).toNat)
  case atStart => exact ⟨0, 0, Nat.zero_le _, rfl, rfl, rfl⟩
  case round =>
    obtain ⟨k, q, hk, rfl, rfl, hw⟩ := hrel
    obtain rfl := hw.out
    clear hw
    by_cases hlt : k + 1 < n
    · obtain ⟨b, o, a, rfl, _, ha, _, a0, -, -⟩ := H.out.at (show k < n by omega)
      obtain ⟨_, _, s, e1, _, hs, _, s0, -, -⟩ := H.out.at hlt
      injection e1 with e1
      injection e1 with e1 e2
      subst e1 e2
      have ea := nth_of ha
      have es := nth_of hs
      have ba := nth_bd HM.out k
      have bs := nth_bd HM.out (k + 1)
      have bg := gap_bd HM.out k
      have eg : gap ss (k + 1) = max (gap ss k) ((nth ss (k + 1)).t - (nth ss k).t) := rfl
      rw [ea] at ba eg
      rw [es] at bs eg
      have hd : IntKind.i64.wrap (s.t - a.t) = s.t - a.t := IntWalk.i64_in _ ⟨by omega, by omega⟩
      have hw1 : IntKind.i64.wrap ((k : Int) + 1 - 1) = (k : Int) := by rw [IntWalk.i64_in _ ⟨by omega, by omega⟩]; omega
      have hw2 : IntKind.i64.wrap ((k : Int) + 1 + 1) = (k : Int) + 1 + 1 := IntWalk.i64_in _ ⟨by omega, by omega⟩
      have hw3 : IntKind.i64.wrap (k : Int) = (k : Int) := IntWalk.i64_in _ ⟨by omega, by omega⟩
      have i1 : (0 : Int) ≤ (k : Int) + 1 := by omega
      have i3 : (0 : Int) ≤ (k : Int) := by omega
      have i4 : (k : Int) < n := by omega
      have i5 : k < n := by omega
      have i6 : ((k : Int) + 1).toNat = k + 1 := by omega
      have i2 : (k : Int) + 1 < n := by omega
      have HE := Lib.hid eg
      clear ea es ba bs bg eg ha hs
      have c0 : (w.drewN q).cell? ⟨b, o + k * 3, none⟩ = some (.int .i64 a.t) := a0
      have c1 : (w.drewN q).cell? ⟨b, o + (k + 1) * 3, none⟩ = some (.int .i64 s.t) := s0
      clear a0 s0
      by_cases hmx : gap ss k < s.t - a.t
      case' pos =>
        have hg : gap ss (k + 1) = s.t - a.t := by have := HE.out; omega
        have hif : max (gap ss k) (s.t - a.t) = s.t - a.t := by omega
        have HG := Lib.hid hg
        clear hg HE
        go_wp2_with fail
        go_region_held3 (fun wx => wx.cell? ⟨b, o + k * 3, none⟩ = some (.int .i64 a.t) ∧ wx.cell? ⟨b, o + (k + 1) * 3, none⟩ = some (.int .i64 s.t)) (exact ⟨c0, c1⟩) (fail)
      case' neg =>
        have hg : gap ss (k + 1) = gap ss k := by have := HE.out; omega
        have hif : max (gap ss k) (s.t - a.t) = gap ss k := by omega
        have HG := Lib.hid hg
        clear hg HE
        go_wp2_with fail
        go_region_held3 (fun wx => wx.cell? ⟨b, o + k * 3, none⟩ = some (.int .i64 a.t) ∧ wx.cell? ⟨b, o + (k + 1) * 3, none⟩ = some (.int .i64 s.t)) (exact ⟨c0, c1⟩) (fail)
      all_goals
        go_wp2
        go_roundw
        case' rel => exact ⟨k + 1, q + 1, by omega, by go_num, by rw [HG.out], rfl⟩
        case' measure => simp [intOf]; omega
    · have hkn : k = n - 1 := by omega
      subst hkn
      go_wp2
      go_ret
      exact ⟨rfl, _, rfl⟩

set_option maxHeartbeats 1600000 in
set_option maxRecDepth 100000 in
theorem length_any (A : Option Addr) (n c B : Nat) (ss : List S) (w : World) (h : SRow w B A n ss) (hmay : ∀ s ∈ ss, may s = true) (hn : n ≤ 10000) :
    Calls Try.prog 15 #[.slice A n c] w fun e w' => e = .returned (.int .i64 (len ss (n - 1))) ∧ ∃ q, w' = w.drewN q := by
  have H := Lib.hid h
  have HM := Lib.hid hmay
  clear h hmay
  go_enter Try.func15, Try.ntmps15
  go_wp2
  go_loopw [3, 4] (fun g i wr => ∃ k q : Nat, k ≤ n - 1 ∧ i = .int .i64 ((k : Int) + 1) ∧ g = .int .i64 (len ss k) ∧ Hid (wr = w.drewN q)) (fun _ i _ => n - (intOf i).toNat)
  case atStart => exact ⟨0, 0, Nat.zero_le _, rfl, rfl, rfl⟩
  case round =>
    obtain ⟨k, q, hk, rfl, rfl, hw⟩ := hrel
    obtain rfl := hw.out
    clear hw
    by_cases hlt : k + 1 < n
    · obtain ⟨b, o, a, rfl, _, ha, _, -, a1, a2⟩ := H.out.at (show k < n by omega)
      obtain ⟨_, _, s, e1, _, hs, _, -, s1, s2⟩ := H.out.at hlt
      injection e1 with e1
      injection e1 with e1 e2
      subst e1 e2
      have ea := nth_of ha
      have es := nth_of hs
      have ba := nth_bd HM.out k
      have bs := nth_bd HM.out (k + 1)
      have bl := len_bd HM.out k
      have eg : len ss (k + 1) = len ss k + stp (nth ss k) (nth ss (k + 1)) := rfl
      rw [ea] at ba eg
      rw [es] at bs eg
      unfold stp at eg
      have dx := dif_bd (a := s.x) (b := a.x) (by omega) (by omega) (by omega) (by omega)
      have dy := dif_bd (a := s.y) (b := a.y) (by omega) (by omega) (by omega) (by omega)
      have px : 0 ≤ s.x ∧ s.x < 67108864 := by omega
      have qx : 0 ≤ a.x ∧ a.x < 67108864 := by omega
      have py : 0 ≤ s.y ∧ s.y < 67108864 := by omega
      have qy : 0 ≤ a.y ∧ a.y < 67108864 := by omega
      have PX : Hid (∀ w, Calls Try.prog 38 #[.int .i64 s.x, .int .i64 a.x] w fun e w' => e = .returned (.int .i64 (dif s.x a.x)) ∧ w' = w) := apart_any _ _ px qx
      have PY : Hid (∀ w, Calls Try.prog 38 #[.int .i64 s.y, .int .i64 a.y] w fun e w' => e = .returned (.int .i64 (dif s.y a.y)) ∧ w' = w) := apart_any _ _ py qy
      clear px qx py qy
      have c0 : (w.drewN q).cell? ⟨b, o + k * 3 + 1, none⟩ = some (.int .i64 a.x) := a1
      have c1 : (w.drewN q).cell? ⟨b, o + k * 3 + 2, none⟩ = some (.int .i64 a.y) := a2
      have c2 : (w.drewN q).cell? ⟨b, o + (k + 1) * 3 + 1, none⟩ = some (.int .i64 s.x) := s1
      have c3 : (w.drewN q).cell? ⟨b, o + (k + 1) * 3 + 2, none⟩ = some (.int .i64 s.y) := s2
      obtain ⟨X, hX⟩ : ∃ X, dif s.x a.x = X := ⟨_, rfl⟩
      obtain ⟨Y, hY⟩ : ∃ Y, dif s.y a.y = Y := ⟨_, rfl⟩
      rw [hX] at eg dx PX
      rw [hY] at eg dy PY
      clear hX hY
      generalize s.x = sx at *
      generalize s.y = sy at *
      generalize a.x = ax at *
      generalize a.y = ay at *
      have hw0 : IntKind.i64.wrap (len ss k + X) = len ss k + X := IntWalk.i64_in _ ⟨by omega, by omega⟩
      have hw4 : IntKind.i64.wrap (len ss k + Y) = len ss k + Y := IntWalk.i64_in _ ⟨by omega, by omega⟩
      have hw1 : IntKind.i64.wrap ((k : Int) + 1 - 1) = (k : Int) := by rw [IntWalk.i64_in _ ⟨by omega, by omega⟩]; omega
      have hw2 : IntKind.i64.wrap ((k : Int) + 1 + 1) = (k : Int) + 1 + 1 := IntWalk.i64_in _ ⟨by omega, by omega⟩
      have hw3 : IntKind.i64.wrap (k : Int) = (k : Int) := IntWalk.i64_in _ ⟨by omega, by omega⟩
      have i1 : (0 : Int) ≤ (k : Int) + 1 := by omega
      have i3 : (0 : Int) ≤ (k : Int) := by omega
      have i4 : (k : Int) < n := by omega
      have i5 : k < n := by omega
      have i6 : ((k : Int) + 1).toNat = k + 1 := by omega
      have i2 : (k : Int) + 1 < n := by omega
      have HE := Lib.hid eg
      clear ea es ba bs eg ha hs bl dx dy a1 a2 s1 s2
      by_cases hmx : X < Y
      case' pos =>
        have hg : len ss (k + 1) = len ss k + Y := by have := HE.out; omega
        have hif : max X Y = Y := by omega
        have HG := Lib.hid hg
        clear hg HE
        go_wp2_with fail
        go_region_held3 (fun wx => wx.cell? ⟨b, o + k * 3 + 1, none⟩ = some (.int .i64 ax) ∧ wx.cell? ⟨b, o + k * 3 + 2, none⟩ = some (.int .i64 ay) ∧ wx.cell? ⟨b, o + (k + 1) * 3 + 1, none⟩ = some (.int .i64 sx) ∧ wx.cell? ⟨b, o + (k + 1) * 3 + 2, none⟩ = some (.int .i64 sy)) (exact ⟨c0, c1, c2, c3⟩) (first
          | (go_at_call 38; (first | (with_reducible refine (PX.out _).mono ?_) | (with_reducible refine (PY.out _).mono ?_)); rintro e9 w9 ⟨rfl, rfl⟩))
      case' neg =>
        have hg : len ss (k + 1) = len ss k + X := by have := HE.out; omega
        have hif : max X Y = X := by omega
        have HG := Lib.hid hg
        clear hg HE
        go_wp2_with fail
        go_region_held3 (fun wx => wx.cell? ⟨b, o + k * 3 + 1, none⟩ = some (.int .i64 ax) ∧ wx.cell? ⟨b, o + k * 3 + 2, none⟩ = some (.int .i64 ay) ∧ wx.cell? ⟨b, o + (k + 1) * 3 + 1, none⟩ = some (.int .i64 sx) ∧ wx.cell? ⟨b, o + (k + 1) * 3 + 2, none⟩ = some (.int .i64 sy)) (exact ⟨c0, c1, c2, c3⟩) (first
          | (go_at_call 38; (first | (with_reducible refine (PX.out _).mono ?_) | (with_reducible refine (PY.out _).mono ?_)); rintro e9 w9 ⟨rfl, rfl⟩))
      all_goals
        go_wp2
        go_roundw
        case' rel => exact ⟨k + 1, q + 1, by omega, by go_num, by rw [HG.out], rfl⟩
        case' measure => simp [intOf]; omega
    · have hkn : k = n - 1 := by omega
      subst hkn
      go_wp2
      go_ret
      exact ⟨rfl, _, rfl⟩
end Go.Proofs.Ytmpihllcmdgapaa.Trc

/- Layer 5 (sample): the reference's Same of equal slices, as a contract. -/
namespace Go.Proofs.Ytmpihllcmdgapaa.Smp
open Go.RowKit Var Fld

set_option maxHeartbeats 1600000 in
set_option maxRecDepth 100000 in
theorem alike_any (A A' : Option Addr) (n c c' B B' : Nat) (ss : List S) (w : World) (hn : n ≤ 4398046511104) (h1 : SRow w B A n ss) (h2 : SRow w B' A' n ss) :
    Calls Try.prog 12 #[.slice A n c, .slice A' n c'] w fun e w' => e = .returned (.bool true) ∧ ∃ q, w' = w.drewN q := by
  have H1 := Lib.hid h1
  have H2 := Lib.hid h2
  clear h1 h2
  go_enter Try.func12, Try.ntmps12
  go_wp2
  go_loopw [5] (fun i wr => ∃ k q : Nat, k ≤ n ∧ i = .int .i64 (k : Int) ∧ Hid (wr = w.drewN q)) (fun i _ => n - (intOf i).toNat)
  case atStart => exact ⟨0, 0, Nat.zero_le _, rfl, rfl⟩
  case round =>
    obtain ⟨k, q, hk, rfl, hw⟩ := hrel
    obtain rfl := hw.out
    clear hw
    by_cases hlt : k < n
    · obtain ⟨b, o, s, rfl, _, hs, _, c0, c1, c2⟩ := H1.out.at hlt
      obtain ⟨b', o', s', rfl, _, hs', _, d0, d1, d2⟩ := H2.out.at hlt
      rw [hs] at hs'
      injection hs' with hs'
      subst hs'
      clear hs
      go_wp2_with fail
      go_quiet (fail)
      go_wp2
      go_roundw
      case rel => exact ⟨k + 1, _, by omega, by go_num, by unfold Hid; rfl⟩
      case measure => simp [intOf]; omega
    · go_wp2
      go_ret
      exact ⟨rfl, _, rfl⟩

end Go.Proofs.Ytmpihllcmdgapaa.Smp

/- Layer 6 (trace): awake of the statements; TraceBytes as a walk. -/
namespace Go.Proofs.Ytmpihllcmdgapaa.Trc
open Go.RowKit Var Fld Smp

set_option maxHeartbeats 1600000 in
set_option maxRecDepth 100000 in
theorem awake_any (w : World) : Calls Try.prog 6 #[] w fun e w' => e = .returned (.bool true) ∧ Below w.heap.size w w' := by
  obtain ⟨wA, hwA⟩ : ∃ wA, w.alloc (.cells #[.int .i64 0, .int .i64 0, .int .i64 0, .int .i64 1, .int .i64 3, .int .i64 1, .int .i64 2, .int .i64 3, .int .i64 9] 38) = wA := ⟨_, rfl⟩
  have hb : Below w.heap.size w wA := by rw [← hwA]; exact (Below.refl _ _).alloc (Nat.le_refl _) _
  have hrow : SRow wA wA.heap.size (some ⟨w.heap.size, 0, none⟩) 3 [⟨0, 0, 0⟩, ⟨1, 3, 1⟩, ⟨2, 3, 9⟩] := by
    have q := heap_alloc_new w (.cells #[.int .i64 0, .int .i64 0, .int .i64 0, .int .i64 1, .int .i64 3, .int .i64 1, .int .i64 2, .int .i64 3, .int .i64 9] 38)
    rw [hwA] at q
    refine ⟨rfl, ?_, fun _ => ⟨w.heap.size, 0, rfl, (Array.getElem?_eq_some_iff.1 q).1, ?_⟩⟩
    · intro s hs
      refine may_ok ?_
      simp only [List.mem_cons, List.not_mem_nil, or_false] at hs
      rcases hs with rfl | rfl | rfl <;> rfl
    · intro j s hj i hi
      match j, hj with
      | 0, hj =>
        simp at hj
        subst hj
        match i, hi with
        | 0, _ => exact cell_of_blk q rfl
        | 1, _ => exact cell_of_blk q rfl
        | 2, _ => exact cell_of_blk q rfl
      | 1, hj =>
        simp at hj
        subst hj
        match i, hi with
        | 0, _ => exact cell_of_blk q rfl
        | 1, _ => exact cell_of_blk q rfl
        | 2, _ => exact cell_of_blk q rfl
      | 2, hj =>
        simp at hj
        subst hj
        match i, hi with
        | 0, _ => exact cell_of_blk q rfl
        | 1, _ => exact cell_of_blk q rfl
        | 2, _ => exact cell_of_blk q rfl
      | j + 3, hj => simp at hj
  have P := length_any _ 3 3 _ _ wA hrow (by intro s hs; simp only [List.mem_cons, List.not_mem_nil, or_false] at hs; rcases hs with rfl | rfl | rfl <;> rfl) (by omega)
  have hl : len [⟨0, 0, 0⟩, ⟨1, 3, 1⟩, ⟨2, 3, 9⟩] (3 - 1) = 11 := by decide
  rw [hl] at P
  have HP := Lib.hid P
  have HB := Lib.hid hb
  have HA := Lib.hid hwA
  clear hb hrow P hl hwA
  go_enter Try.func6, Try.ntmps6
  go_wp2_with fail
  rw [HA.out]
  refine HP.out.mono ?_
  rintro e1 w1 ⟨rfl, q, rfl⟩
  go_wp2
  go_ret
  have hb := HB.out
  exact ⟨rfl, ⟨hb.os, hb.tape, hb.output, hb.size, hb.block⟩⟩

set_option maxHeartbeats 3200000 in
set_option maxRecDepth 100000 in
theorem bytes_walk (A : Option Addr) (n c : Nat) (ss : List S) (A' : Option Addr) (n' c' : Nat) (bs : List Int) (w : World) (h : SRow w w.heap.size A n ss) (hn : n ≤ maxLen) (hnc : n ≤ c)
    (h' : Row .u8 w w.heap.size A' n' bs) (hnil : A' = none → c' = 0) (hnc' : n' ≤ c') (hc' : c' ≤ maxLen) (hbyt : ∀ x ∈ bs, 0 ≤ x ∧ x ≤ 255) :
    Calls Try.prog 3 #[.slice A n c, .slice A' n' c'] w fun e w' => e = .returned (.bool true) ∧ Below w.heap.size w w' := by
  have H := Lib.hid h
  have HN := Lib.hid hn
  have HC := Lib.hid hnc
  have H' := Lib.hid h'
  have HI' := Lib.hid hnil
  have HC' := Lib.hid hnc'
  have HM' := Lib.hid hc'
  have HY := Lib.hid hbyt
  clear h hn hnc h' hnil hnc' hc' hbyt
  go_enter Try.func3, Try.ntmps3
  go_wp2_with fail
  refine (awake_any _).mono ?_
  rintro e1 w1 ⟨rfl, hb1⟩
  have HB1 := Lib.hid hb1
  clear hb1
  by_cases hbig : 2100 < n
  · have hd : decide (2100 < (n : Int)) = true := decide_eq_true (by omega)
    go_wp2
    go_ret
    exact ⟨rfl, HB1.out⟩
  · have hd : decide (2100 < n) = false := decide_eq_false hbig
    by_cases hbig' : 4000 < n'
    · go_wp2
      go_ret
      exact ⟨rfl, HB1.out⟩
    · have hd' : decide (4000 < n') = false := decide_eq_false hbig'
      go_wp2_with fail
      refine (put_any A n c ss w1 ((H.out.below HB1.out).more HB1.out.size) HC.out (by omega)).mono ?_
      rintro e2 w2 ⟨v2, rfl, hown2, hb2⟩
      obtain ⟨A2, c2, rfl, -⟩ := own_nil hown2
      have HO2 := Lib.hid hown2
      have HB2 := Lib.hid (HB1.out.trans (hb2.mono HB1.out.size))
      clear hown2 hb2 hd hd'
      go_wp2_with fail
      refine (refput_any A n c ss w2 ((H.out.below HB2.out).more HB2.out.size) (by omega)).mono ?_
      rintro e3 w3 ⟨v3, rfl, hown3, hb3⟩
      obtain ⟨A3, c3, rfl, -⟩ := own_nil hown3
      have HR2 := Lib.hid ((Row.of_own HO2.out).below hb3)
      have HL23 := Lib.hid hb3.size
      have HO3 := Lib.hid hown3
      have HB3 := Lib.hid (HB2.out.trans (hb3.mono HB2.out.size))
      clear hown3 hb3 HO2
      go_wp2_with fail
      refine (take_any A' n' c' bs w3 ((H'.out.below HB3.out).more HB3.out.size) HI'.out HC'.out (by omega) HM'.out HY.out).mono ?_
      rintro e4 w4 ⟨v4, rfl, hown4, hb4⟩
      obtain ⟨A4, c4, rfl, -⟩ := own3_slice hown4
      have hs4 := hb4.size
      have HR2 := Lib.hid ((HR2.out.more HL23.out).below hb4)
      have HR3 := Lib.hid ((Row.of_own HO3.out).below hb4)
      have HR4 := Lib.hid (SRow.of_own hown4 (fun s hs => may_ok (good_may (trT_good HY.out).1 hs)))
      have HB4 := Lib.hid (HB3.out.trans (hb4.mono HB3.out.size))
      clear hown4 hb4 HO3
      go_wp2_with fail
      refine (reftake_any A' n' c' bs w4 ((H'.out.below HB4.out).more HB4.out.size) HC'.out (by omega) HM'.out HY.out).mono ?_
      rintro e5 w5 ⟨v5, rfl, hown5, hb5⟩
      obtain ⟨A5, c5, rfl, -⟩ := own3_slice hown5
      have HR2 := Lib.hid ((HR2.out.more hs4).below hb5)
      have HR3 := Lib.hid ((HR3.out.more hs4).below hb5)
      have HR4 := Lib.hid (HR4.out.below hb5)
      have HR5 := Lib.hid (SRow.of_own hown5 (fun s hs => may_ok (good_may (trT_good HY.out).1 hs)))
      have HB5 := Lib.hid (HB4.out.trans (hb5.mono HB4.out.size))
      have hl1 := trB_len ss
      have hl2 := (trT_good HY.out).2
      have he1 : ((putE ss : Int) == putE ss) = true := beq_self_eq_true _
      have he2 : (((trT bs).2 : Int) == ((trT bs).2 : Int)) = true := beq_self_eq_true _
      clear hown5 hb5
      go_wp2_with fail
      refine (same_yes A2 A3 _ c2 c3 _ _ (trB ss) w5 (by omega) HR2.out HR3.out).mono ?_
      rintro e6 w6 ⟨rfl, q6, rfl⟩
      have HB6 : Hid (Below w.heap.size w (w5.drewN q6)) := by
        have := HB5.out
        exact ⟨this.os, this.tape, this.output, this.size, this.block⟩
      have HR4' : Hid (SRow (w5.drewN q6) w4.heap.size A4 (trT bs).1.length (trT bs).1) := HR4.out
      have HR5' : Hid (SRow (w5.drewN q6) w5.heap.size A5 (trT bs).1.length (trT bs).1) := HR5.out
      clear HB5 HR2 HR3 HR4 HR5
      generalize w5.drewN q6 = w7 at HB6 HR4' HR5' ⊢
      go_wp2_with fail
      refine (alike_any A4 A5 _ c4 c5 _ _ (trT bs).1 w7 (by omega) HR4'.out HR5'.out).mono ?_
      rintro e8 w8 ⟨rfl, q8, rfl⟩
      go_wp2
      go_ret
      have hb := HB6.out
      exact ⟨rfl, ⟨hb.os, hb.tape, hb.output, hb.size, hb.block⟩⟩
end Go.Proofs.Ytmpihllcmdgapaa.Trc

/- Layer 6 (trace): the reference's Gap and Length, as contracts. -/
namespace Go.Proofs.Ytmpihllcmdgapaa.Trc
open Go.RowKit Var Fld Smp

/-- Draws alone lie between them. -/
def Drawn (w wr : World) : Prop := ∃ q, wr = w.drewN q
theorem Drawn.zero (w : World) : Drawn w w := ⟨0, rfl⟩
theorem Drawn.on {w wr : World} (h : Drawn w wr) (m : Nat) : Drawn w (wr.drewN m) := by
  obtain ⟨q, rfl⟩ := h
  exact ⟨_, World.drewN_drewN w q m⟩
theorem Drawn.cell {w wr : World} {p : Addr} {v : Value} (h : Drawn w wr) (hp : w.cell? p = some v) : wr.cell? p = some v := by
  obtain ⟨q, rfl⟩ := h
  exact hp
theorem Drawn.below {w0 w wr : World} (h : Drawn w wr) (B : Nat) (hb : Below B w0 w) : Below B w0 wr := by
  obtain ⟨q, rfl⟩ := h
  exact ⟨hb.os, hb.tape, hb.output, hb.size, hb.block⟩

set_option maxHeartbeats 1600000 in
set_option maxRecDepth 100000 in
theorem refgap_any (A : Option Addr) (n c B : Nat) (ss : List S) (w : World) (h : SRow w B A n ss) (hmay : ∀ s ∈ ss, may s = true) (hn : n ≤ 10000) :
    Calls Try.prog 18 #[.slice A n c] w fun e w' => e = .returned (.int .i64 (gap ss (n - 1))) ∧ Drawn w w' := by
  have H := Lib.hid h
  have HM := Lib.hid hmay
  clear h hmay
  go_enter Try.func18, Try.ntmps18
  go_wp2
  go_loopw [3, 4] (fun g i wr => ∃ k : Nat, k ≤ n - 1 ∧ i = .int .i64 (k : Int) ∧ g = .int .i64 (gap ss k) ∧ Hid (Drawn w wr)) (fun _ i _ => n - (intOf i).toNat)
  case atStart => exact ⟨0, Nat.zero_le _, rfl, rfl, Drawn.zero _⟩
  case round =>
    obtain ⟨k, hk, rfl, rfl, HW⟩ := hrel
    have hw2 : IntKind.i64.wrap ((k : Int) + 1) = (k : Int) + 1 := IntWalk.i64_in _ ⟨by omega, by omega⟩
    by_cases hlt : k + 1 < n
    · obtain ⟨b, o, a, rfl, _, ha, _, a0, -, -⟩ := H.out.at (show k < n by omega)
      obtain ⟨_, _, s, e1, _, hs, _, s0, -, -⟩ := H.out.at hlt
      injection e1 with e1
      injection e1 with e1 e2
      subst e1 e2
      have ea := nth_of ha
      have es := nth_of hs
      have ba := nth_bd HM.out k
      have bs := nth_bd HM.out (k + 1)
      have bg := gap_bd HM.out k
      have eg : gap ss (k + 1) = max (gap ss k) ((nth ss (k + 1)).t - (nth ss k).t) := rfl
      rw [ea] at ba eg
      rw [es] at bs eg
      have hd : IntKind.i64.wrap (s.t - a.t) = s.t - a.t := IntWalk.i64_in _ ⟨by omega, by omega⟩
      have c0 := HW.out.cell a0
      have c1 := HW.out.cell s0
      have i1 : (0 : Int) ≤ (k : Int) + 1 := by omega
      have i3 : (0 : Int) ≤ (k : Int) := by omega
      have i4 : (k : Int) < n := by omega
      have i5 : k < n := by omega
      have i6 : ((k : Int) + 1).toNat = k + 1 := by omega
      have i2 : (k : Int) + 1 < n := by omega
      have HE := Lib.hid eg
      clear ea es ba bs bg eg ha hs a0 s0
      by_cases hmx : gap ss k < s.t - a.t
      case' pos =>
        have hg : gap ss (k + 1) = s.t - a.t := by have := HE.out; omega
        have hdd : decide (gap ss k < s.t - a.t) = true := decide_eq_true hmx
        have HG := Lib.hid hg
        clear hg HE
        go_wp2_with fail
        go_quiet (fail)
        go_wp2_with fail
        have HW1 := Lib.hid (HW.out.on nq)
        have c2 : (wr.drewN nq).cell? ⟨b, o + k * 3, none⟩ = some (.int .i64 a.t) := c0
        have c3 : (wr.drewN nq).cell? ⟨b, o + (k + 1) * 3, none⟩ = some (.int .i64 s.t) := c1
        clear c0 c1 HW
        generalize wr.drewN nq = wx at HW1 c2 c3 ⊢
        go_quiet (fail)
        have HW2 := Lib.hid (HW1.out.on nq)
      case' neg =>
        have hg : gap ss (k + 1) = gap ss k := by have := HE.out; omega
        have hdd : decide (gap ss k < s.t - a.t) = false := decide_eq_false hmx
        have HG := Lib.hid hg
        clear hg HE
        go_wp2_with fail
        go_quiet (fail)
        have HW2 := Lib.hid (HW.out.on nq)
      all_goals
        go_wp2
        go_roundw
        case' rel => exact ⟨k + 1, by omega, by go_num, by rw [HG.out], HW2.out⟩
        case' measure => simp [intOf]; omega
    · have hkn : k = n - 1 := by omega
      subst hkn
      go_wp2
      go_ret
      exact ⟨rfl, HW.out⟩

set_option maxHeartbeats 1600000 in
set_option maxRecDepth 100000 in
theorem reflength_any (A : Option Addr) (n c B : Nat) (ss : List S) (w : World) (h : SRow w B A n ss) (hmay : ∀ s ∈ ss, may s = true) (hn : n ≤ 10000) :
    Calls Try.prog 16 #[.slice A n c] w fun e w' => e = .returned (.int .i64 (len ss (n - 1))) ∧ Drawn w w' := by
  have H := Lib.hid h
  have HM := Lib.hid hmay
  clear h hmay
  go_enter Try.func16, Try.ntmps16
  go_wp2
  go_loopw [3, 4] (fun g i wr => ∃ k : Nat, k ≤ n - 1 ∧ i = .int .i64 (k : Int) ∧ g = .int .i64 (len ss k) ∧ Hid (Drawn w wr)) (fun _ i _ => n - (intOf i).toNat)
  case atStart => exact ⟨0, Nat.zero_le _, rfl, rfl, Drawn.zero _⟩
  case round =>
    obtain ⟨k, hk, rfl, rfl, HW⟩ := hrel
    have hw2 : IntKind.i64.wrap ((k : Int) + 1) = (k : Int) + 1 := IntWalk.i64_in _ ⟨by omega, by omega⟩
    by_cases hlt : k + 1 < n
    · obtain ⟨b, o, a, rfl, _, ha, _, -, a1, a2⟩ := H.out.at (show k < n by omega)
      obtain ⟨_, _, s, e1, _, hs, _, -, s1, s2⟩ := H.out.at hlt
      injection e1 with e1
      injection e1 with e1 e2
      subst e1 e2
      have ea := nth_of ha
      have es := nth_of hs
      have ba := nth_bd HM.out k
      have bs := nth_bd HM.out (k + 1)
      have bl := len_bd HM.out k
      have eg : len ss (k + 1) = len ss k + stp (nth ss k) (nth ss (k + 1)) := rfl
      rw [ea] at ba eg
      rw [es] at bs eg
      unfold stp at eg
      have dx := dif_bd (a := s.x) (b := a.x) (by omega) (by omega) (by omega) (by omega)
      have dy := dif_bd (a := s.y) (b := a.y) (by omega) (by omega) (by omega) (by omega)
      have px : 0 ≤ s.x ∧ s.x < 67108864 := by omega
      have qx : 0 ≤ a.x ∧ a.x < 67108864 := by omega
      have py : 0 ≤ s.y ∧ s.y < 67108864 := by omega
      have qy : 0 ≤ a.y ∧ a.y < 67108864 := by omega
      have PX : Hid (∀ w, Calls Try.prog 39 #[.int .i64 (s.x - a.x)] w fun e w' => e = .returned (.int .i64 (dif s.x a.x)) ∧ w' = w) := amount_any _ _ px qx
      have PY : Hid (∀ w, Calls Try.prog 39 #[.int .i64 (s.y - a.y)] w fun e w' => e = .returned (.int .i64 (dif s.y a.y)) ∧ w' = w) := amount_any _ _ py qy
      have d1 : IntKind.i64.wrap (s.x - a.x) = s.x - a.x := IntWalk.i64_in _ ⟨by omega, by omega⟩
      have d2 : IntKind.i64.wrap (s.y - a.y) = s.y - a.y := IntWalk.i64_in _ ⟨by omega, by omega⟩
      clear px qx py qy
      have c0 := HW.out.cell a1
      have c1 := HW.out.cell a2
      have c2 := HW.out.cell s1
      have c3 := HW.out.cell s2
      obtain ⟨X, hX⟩ : ∃ X, dif s.x a.x = X := ⟨_, rfl⟩
      obtain ⟨Y, hY⟩ : ∃ Y, dif s.y a.y = Y := ⟨_, rfl⟩
      rw [hX] at eg dx PX
      rw [hY] at eg dy PY
      clear hX hY
      generalize s.x = sx at *
      generalize s.y = sy at *
      generalize a.x = ax at *
      generalize a.y = ay at *
      have hw0 : IntKind.i64.wrap (len ss k + X) = len ss k + X := IntWalk.i64_in _ ⟨by omega, by omega⟩
      have hw4 : IntKind.i64.wrap (len ss k + Y) = len ss k + Y := IntWalk.i64_in _ ⟨by omega, by omega⟩
      have i1 : (0 : Int) ≤ (k : Int) + 1 := by omega
      have i3 : (0 : Int) ≤ (k : Int) := by omega
      have i4 : (k : Int) < n := by omega
      have i5 : k < n := by omega
      have i6 : ((k : Int) + 1).toNat = k + 1 := by omega
      have i2 : (k : Int) + 1 < n := by omega
      have HE := Lib.hid eg
      clear ea es ba bs eg ha hs bl dx dy a1 a2 s1 s2
      go_wp2_with fail
      go_quiet ((go_at_call 39; refine Calls.quiet_of_same (PX.out _)))
      go_wp2_with fail
      have HW1 := Lib.hid (HW.out.on nq)
      have c5 : (wr.drewN nq).cell? ⟨b, o + k * 3 + 2, none⟩ = some (.int .i64 ay) := c1
      have c6 : (wr.drewN nq).cell? ⟨b, o + (k + 1) * 3 + 2, none⟩ = some (.int .i64 sy) := c3
      clear c0 c1 c2 c3 HW
      generalize wr.drewN nq = wx at HW1 c5 c6 ⊢
      go_quiet ((go_at_call 39; refine Calls.quiet_of_same (PY.out _)))
      have HW2 := Lib.hid (HW1.out.on nq)
      by_cases hmx : Y < X
      case' pos =>
        have hg : len ss (k + 1) = len ss k + X := by have := HE.out; omega
        have hdd : decide (Y < X) = true := decide_eq_true hmx
        have HG := Lib.hid hg
        clear hg HE
      case' neg =>
        have hg : len ss (k + 1) = len ss k + Y := by have := HE.out; omega
        have hdd : decide (Y < X) = false := decide_eq_false hmx
        have HG := Lib.hid hg
        clear hg HE
      all_goals
        go_wp2
        go_roundw
        case' rel => exact ⟨k + 1, by omega, by go_num, by rw [HG.out], HW2.out⟩
        case' measure => simp [intOf]; omega
    · have hkn : k = n - 1 := by omega
      subst hkn
      go_wp2
      go_ret
      exact ⟨rfl, HW.out⟩
end Go.Proofs.Ytmpihllcmdgapaa.Trc

/- Layer 6 (trace): the reference's Right, as a contract. -/
namespace Go.Proofs.Ytmpihllcmdgapaa.Trc
open Go.RowKit Var Fld Smp

set_option maxHeartbeats 1600000 in
set_option maxRecDepth 100000 in
theorem right_any (A : Option Addr) (n c : Nat) (ss : List S) (w : World) (h : SRow w w.heap.size A n ss) (hn : n ≤ 10000) :
    Calls Try.prog 14 #[.slice A n c] w fun e w' => e = .returned (.bool (good ss)) ∧ Below w.heap.size w w' := by
  have H := Lib.hid h
  have HL := Lib.hid h.len
  clear h
  go_enter Try.func14, Try.ntmps14
  go_wp2
  go_loopw [3] (fun i wr => ∃ k : Nat, k ≤ n ∧ i = .int .i64 (k : Int) ∧ Hid (good (ss.take k) = true) ∧ Hid (Below w.heap.size w wr)) (fun i _ => n - (intOf i).toNat)
  case atStart => exact ⟨0, Nat.zero_le _, rfl, rfl, Below.refl _ _⟩
  case round =>
    obtain ⟨k, hk, rfl, HG, HB⟩ := hrel
    by_cases hlt : k < n
    · obtain ⟨b, o, s, rfl, hbl, hs, hok, c0, c1, c2⟩ := (H.out.below HB.out).at hlt
      have HS := Lib.hid hs
      have hkw : IntKind.i64.wrap ((k : Int) + 1) = (k : Int) + 1 := IntWalk.i64_in _ ⟨by omega, by omega⟩
      have hbl' : b < wr.heap.size := Nat.lt_of_lt_of_le hbl HB.out.size
      obtain ⟨ι, hne, W, j0, h0, hW, hC⟩ := fam_of wr
      have d0 : ∀ i, (W i).cell? ⟨b, o + k * 3, none⟩ = some (.int .i64 s.t) := fun i => ((hW i).cell (p := ⟨b, o + k * 3, none⟩) hbl').trans c0
      have d1 : ∀ i, (W i).cell? ⟨b, o + k * 3 + 1, none⟩ = some (.int .i64 s.x) := fun i => ((hW i).cell (p := ⟨b, o + k * 3 + 1, none⟩) hbl').trans c1
      have d2 : ∀ i, (W i).cell? ⟨b, o + k * 3 + 2, none⟩ = some (.int .i64 s.y) := fun i => ((hW i).cell (p := ⟨b, o + k * 3 + 2, none⟩) hbl').trans c2
      have HWW : ∀ i, Hid (Below w.heap.size w (W i)) := fun i => HB.out.trans ((hW i).mono HB.out.size)
      have HF : Hid (∀ i, Calls Try.prog 37 #[.agg #[.int .i64 s.t, .int .i64 s.x, .int .i64 s.y]] (W i) fun e w' => e = .returned (.bool (may s)) ∧ Below (W i).heap.size (W i) w') := fun i => refmay_on s (W i)
      have H0 := Lib.hid h0
      have HC := Lib.hid hC
      cases hms : may s with
      | false =>
        have hokp : okp (ss.take k) s = false := by unfold okp; rw [hms]; rfl
        have hg : good ss = false := good_no HS.out hokp
        rw [hms] at HF
        have HQ := Lib.hid hg
        clear h0 hW hC hs c0 c1 c2 hok hg hokp
        go_wp2_with fail
        refine wp_region_fam W j0 (by kernel_rfl) (by kernel_rfl) H0.out ?_
        repeat (go_big_quiet_step ((go_at_call 37; exact fam_call HC.out (HF.out _))))
        refine wpQuiet_nil ?_
        rintro _ ⟨i, rfl⟩
        go_wp2
        go_ret
        exact ⟨by rw [HQ.out]; rfl, (HWW i).out⟩
      | true =>
        rw [hms] at HF
        have HMS := Lib.hid hms
        clear hms
        by_cases hk0 : k = 0
        · have hd0 : decide (0 < k) = false := decide_eq_false (by omega)
          have hokp : okp (ss.take k) s = true := by
            unfold okp
            rw [HMS.out, hk0]
            simp
          have HOK := Lib.hid (good_take HG.out HS.out hokp)
          clear h0 hW hC hs c0 c1 c2 hok hokp hk0
          go_wp2_with fail
          refine wp_region_fam W j0 (by kernel_rfl) (by kernel_rfl) H0.out ?_
          repeat (go_big_quiet_step ((go_at_call 37; exact fam_call HC.out (HF.out _))))
          refine wpQuiet_nil ?_
          rintro _ ⟨i, rfl⟩
          go_wp2
          go_roundw
          case rel => exact ⟨k + 1, by omega, by go_num, HOK.out, (HWW i).out⟩
          case measure => simp [intOf]; omega
        · have hkp : 0 < k := by omega
          obtain ⟨b', o', a, e1, -, ha, -, a0, -, -⟩ := (H.out.below HB.out).at (show k - 1 < n by omega)
          injection e1 with e1
          injection e1 with e1 e2
          subst e1 e2
          have hla : las (ss.take k) = a := by
            have := las_take ha
            rwa [show k - 1 + 1 = k by omega] at this
          have d3 : ∀ i, (W i).cell? ⟨b, o + (k - 1) * 3, none⟩ = some (.int .i64 a.t) := fun i => ((hW i).cell (p := ⟨b, o + (k - 1) * 3, none⟩) hbl').trans a0
          have hokp : okp (ss.take k) s = decide (a.t < s.t) := by
            unfold okp
            rw [HMS.out, hla, List.length_take, HL.out, decide_eq_false (show ¬ min k n = 0 by omega)]
            simp
          have hw : IntKind.i64.wrap ((k : Int) - 1) = (k : Int) - 1 := IntWalk.i64_in _ ⟨by omega, by omega⟩
          have i1 : (0 : Int) ≤ (k : Int) - 1 := by omega
          have i2 : (k : Int) - 1 < n := by omega
          by_cases hle : s.t ≤ a.t
          · have hd : decide (s.t ≤ a.t) = true := decide_eq_true hle
            rw [decide_eq_false (by omega)] at hokp
            have hg : good ss = false := good_no HS.out hokp
            have HQ := Lib.hid hg
            clear h0 hW hC hs c0 c1 c2 hok hokp hk0 hg ha a0 hla
            go_wp2_with fail
            refine wp_region_fam W j0 (by kernel_rfl) (by kernel_rfl) H0.out ?_
            repeat (go_big_quiet_step ((go_at_call 37; exact fam_call HC.out (HF.out _))))
            refine wpQuiet_nil ?_
            rintro _ ⟨i, rfl⟩
            go_wp2
            go_ret
            exact ⟨by rw [HQ.out]; rfl, (HWW i).out⟩
          · have hd : decide (s.t ≤ a.t) = false := decide_eq_false hle
            rw [decide_eq_true (by omega)] at hokp
            have HOK := Lib.hid (good_take HG.out HS.out hokp)
            clear h0 hW hC hs c0 c1 c2 hok hokp hk0 ha a0 hla
            go_wp2_with fail
            refine wp_region_fam W j0 (by kernel_rfl) (by kernel_rfl) H0.out ?_
            repeat (go_big_quiet_step ((go_at_call 37; exact fam_call HC.out (HF.out _))))
            refine wpQuiet_nil ?_
            rintro _ ⟨i, rfl⟩
            go_wp2
            go_roundw
            case rel => exact ⟨k + 1, by omega, by go_num, HOK.out, (HWW i).out⟩
            case measure => simp [intOf]; omega
    · have hkn : k = n := by omega
      have hg : good ss = true := by have := HG.out; rwa [List.take_of_length_le (by rw [HL.out]; omega)] at this
      have HQ := Lib.hid hg
      clear hg
      go_wp2
      go_ret
      exact ⟨by rw [HQ.out]; rfl, HB.out⟩
end Go.Proofs.Ytmpihllcmdgapaa.Trc

/- Layer 6 (trace): selected and Between, as contracts. -/
namespace Go.Proofs.Ytmpihllcmdgapaa.Trc
open Go.RowKit Var Fld Smp

/-- Does its T lie between? -/
def inT (a b : Int) (s : S) : Bool := decide (a ≤ s.t) && decide (s.t ≤ b)

set_option maxHeartbeats 800000 in
set_option maxRecDepth 100000 in
theorem cond_any (a b : Int) (s : S) (pa pb : Nat) (w : World) (ha : w.cell? ⟨pa, 0, none⟩ = some (.int .i64 a)) (hb : w.cell? ⟨pb, 0, none⟩ = some (.int .i64 b)) (h1 : pa < w.heap.size) (h2 : pb < w.heap.size) :
    Calls Try.prog 36 #[.agg #[.int .i64 s.t, .int .i64 s.x, .int .i64 s.y], .pointer (some ⟨pa, 0, none⟩), .pointer (some ⟨pb, 0, none⟩)] w fun e w' => e = .returned (.bool (inT a b s)) ∧ Below w.heap.size w w' := by
  obtain ⟨b0, b1, b2⟩ := boxed w s 38
  have eC : s.cells = #[.int .i64 s.t, .int .i64 s.x, .int .i64 s.y] := rfl
  rw [eC] at b0 b1 b2
  have HB := Lib.hid ((Below.refl w.heap.size w).alloc (Nat.le_refl _) (.cells #[.int .i64 s.t, .int .i64 s.x, .int .i64 s.y] 38))
  have ha' := (HB.out.cell (p := ⟨pa, 0, none⟩) h1).trans ha
  have hb' := (HB.out.cell (p := ⟨pb, 0, none⟩) h2).trans hb
  clear ha hb eC b1 b2
  by_cases c1 : a ≤ s.t
  · have d1 : decide (a ≤ s.t) = true := decide_eq_true c1
    by_cases c2 : s.t ≤ b
    · have d2 : decide (s.t ≤ b) = true := decide_eq_true c2
      have hi : inT a b s = true := by unfold inT; rw [d1, d2]; rfl
      rw [hi]
      clear hi
      go_enter Try.func36, Try.ntmps36
      go_wp2
      go_ret
      exact ⟨rfl, HB.out⟩
    · have d2 : decide (s.t ≤ b) = false := decide_eq_false c2
      have hi : inT a b s = false := by unfold inT; rw [d1, d2]; rfl
      rw [hi]
      clear hi
      go_enter Try.func36, Try.ntmps36
      go_wp2
      go_ret
      exact ⟨rfl, HB.out⟩
  · have d1 : decide (a ≤ s.t) = false := decide_eq_false c1
    have hi : inT a b s = false := by unfold inT; rw [d1]; rfl
    rw [hi]
    clear hi
    go_enter Try.func36, Try.ntmps36
    go_wp2
    go_ret
    exact ⟨rfl, HB.out⟩

theorem filter_next {f : S → Bool} {l : List S} {k : Nat} {s : S} (h : l[k]? = some s) : (l.take (k + 1)).filter f = (l.take k).filter f ++ (if f s then [s] else []) := by
  rw [List.take_add_one, h, List.filter_append]
  congr 1
  cases hf : f s <;> simp [hf]

set_option maxHeartbeats 1600000 in
set_option maxRecDepth 100000 in
theorem selected_any (A : Option Addr) (n c fn : Nat) (p q : Value) (hold : S → Bool) (ss : List S) (w : World) (h : SRow w w.heap.size A n ss) (hn : n ≤ 10000) (hent : ∀ (args : Array Value) (w : World), (callFunc fn args).run Try.prog w = .ok (.enter fn args) w)
    (how : ∀ (s : S) (w' : World), Below w.heap.size w w' → Calls Try.prog fn #[.agg #[.int .i64 s.t, .int .i64 s.x, .int .i64 s.y], p, q] w' fun e w'' => e = .returned (.bool (hold s)) ∧ Below w'.heap.size w' w'') :
    Calls Try.prog 35 #[.slice A n c, .func (.func fn) #[] #[p, q]] w fun e w' =>
      ∃ v, e = .returned v ∧ w'.ownsRow w.heap.size 38 3 v (ss.filter hold).length (flat (ss.filter hold)) ∧ Below w.heap.size w w' := by
  obtain ⟨i0, hi, hz0, hz1, hz2⟩ := info_parts info_smp
  have H := Lib.hid h
  have HH := Lib.hid how
  have HL := Lib.hid h.len
  clear h how
  go_enter Try.func35, Try.ntmps35
  go_wp2
  go_loopw [5, 10] (fun v i wr => ∃ k : Nat, k ≤ n ∧ i = .int .i64 (k : Int) ∧ Hid (wr.ownsRow w.heap.size 38 3 v ((ss.take k).filter hold).length (flat ((ss.take k).filter hold))) ∧ Hid (Below w.heap.size w wr)) (fun _ i _ => n - (intOf i).toNat)
  case atStart => exact ⟨0, Nat.zero_le _, rfl, World.ownsRow_nil _ _ _ _, Below.refl _ _⟩
  case round =>
    obtain ⟨k, hk, rfl, HO, HB⟩ := hrel
    by_cases hlt : k < n
    · obtain ⟨b, o, s, rfl, hbl, hs, hok, c0, c1, c2⟩ := (H.out.below HB.out).at hlt
      have HS := Lib.hid hs
      have hkw : IntKind.i64.wrap ((k : Int) + 1) = (k : Int) + 1 := IntWalk.i64_in _ ⟨by omega, by omega⟩
      have hbA := HB.out.alloc HB.out.size (.cells #[.int .i64 s.t, .int .i64 s.x, .int .i64 s.y] 38)
      have HBA := Lib.hid hbA
      have hblk := heap_alloc_new wr (.cells #[.int .i64 s.t, .int .i64 s.x, .int .i64 s.y] 38)
      have HBK := Lib.hid hblk
      have hsz : wr.heap.size < (wr.alloc (.cells #[.int .i64 s.t, .int .i64 s.x, .int .i64 s.y] 38)).heap.size := by simp
      have HOA : Hid ((wr.alloc (.cells #[.int .i64 s.t, .int .i64 s.x, .int .i64 s.y] 38)).ownsRow w.heap.size 38 3 u5 ((ss.take k).filter hold).length (flat ((ss.take k).filter hold))) := own3_only HO.out (Only.alloc (M := fun _ => False) wr _) (fun _ _ h => h)
      clear hs hok hbA hblk
      go_wp2_with fail
      obtain ⟨gb, hgb⟩ : ∃ gb, wr.heap.size = gb := ⟨_, rfl⟩
      rw [hgb] at HBK hsz ⊢
      generalize wr.alloc (.cells #[.int .i64 s.t, .int .i64 s.x, .int .i64 s.y] 38) = wA at HBA HBK HOA hsz ⊢
      refine (HH.out s wA HBA.out).mono ?_
      rintro e1 w1 ⟨rfl, hb1⟩
      have HB1 := Lib.hid (HBA.out.trans (hb1.mono HBA.out.size))
      have HO1 := Lib.hid (own3_only HOA.out (M := fun _ => False) (Only.of_below hb1) (fun _ _ h => h))
      have hk1 := (hb1.block _ (Array.getElem?_eq_some_iff.1 HBK.out).1).trans HBK.out
      have c0' := cell_of_blk (j := 0) hk1 rfl
      have c1' := cell_of_blk (j := 1) hk1 rfl
      have c2' := cell_of_blk (j := 2) hk1 rfl
      have HN := Lib.hid (filter_next (f := hold) HS.out)
      have hfl : ((ss.take k).filter hold).length ≤ 10000 := by
        have := List.length_filter_le hold (ss.take k)
        rw [List.length_take] at this
        omega
      clear hb1 hk1 HOA HBA HBK HO c0 c1 c2
      cases hf : hold s with
      | false =>
        rw [hf] at HN
        simp only [Bool.false_eq_true, if_false, List.append_nil] at HN
        go_wp2
        go_roundw
        case rel => exact ⟨k + 1, by omega, by go_num, by rw [HN.out]; exact HO1.out, HB1.out⟩
        case measure => simp [intOf]; omega
      | true =>
        rw [hf] at HN
        simp only [if_true] at HN
        generalize (ss.take k).filter hold = acc at HN HO1 hfl
        obtain ⟨A', c', rfl, -⟩ := own3_slice HO1.out
        have HDO1 : Hid ((w1.alloc (.cells #[.int .i64 s.t, .int .i64 s.x, .int .i64 s.y] 38)).ownsRow w.heap.size 38 3 (.slice A' acc.length c') acc.length (flat acc)) := own3_only HO1.out (Only.alloc (M := fun _ => False) w1 _) (fun _ _ h => h)
        have HNEW := Lib.hid (new3 w1 s 38)
        go_wp2_with (at_builtin; refine wpList_append_own _ rfl (.tmp 17) (.tmp 19) 22 rfl w.heap.size 38 i0 (.agg #[.int .i64 0, .int .i64 0, .int .i64 0]) 3 24 Try.underlying22 hi hz0 hz1 hz2 rfl (by decide +kernel) _ acc.length (flat acc) rfl HDO1.out ⟨w1.heap.size, 0, none⟩ 1 1 [.int .i64 s.t, .int .i64 s.x, .int .i64 s.y] rfl rfl HNEW.out (by intro u hu; simp at hu; rcases hu with rfl | rfl | rfl <;> rfl) (by unfold maxLen; omega) (by omega) (by simp; have := HB1.out.size; omega) ?_; intro v2 w2 hown2 hgrow _; have HO2 := Lib.hid hown2; have HGR := Lib.hid hgrow; clear hown2 hgrow)
        have hvlt : ∀ i, (Value.slice A' acc.length c').ownBlock = some i → w.heap.size ≤ i := fun i hi => (own3_lt HO1.out hi).1
        have oA := Only.of_grown HGR.out
        have hb2 : Below w.heap.size w w2 := (HB1.out.alloc HB1.out.size _).trans (oA.below (by simp; have := HB1.out.size; omega) (fun i hi => by have := hvlt i hi; omega))
        go_wp2
        go_roundw
        case rel =>
          refine ⟨k + 1, by omega, by go_num, ?_, hb2⟩
          rw [HN.out, flat_snoc, List.length_append]
          exact HO2.out
        case measure => simp [intOf]; omega
    · have hkn : k = n := by omega
      have ht : ss.take k = ss := List.take_of_length_le (by rw [HL.out]; omega)
      rw [ht] at HO
      go_wp2
      go_ret
      exact ⟨_, rfl, HO.out, HB.out⟩

set_option maxHeartbeats 1600000 in
set_option maxRecDepth 100000 in
theorem between_any (A : Option Addr) (n c : Nat) (a b : Int) (ss : List S) (w : World) (h : SRow w w.heap.size A n ss) (hn : n ≤ 10000) :
    Calls Try.prog 13 #[.slice A n c, .int .i64 a, .int .i64 b] w fun e w' =>
      ∃ v, e = .returned v ∧ w'.ownsRow w.heap.size 38 3 v (ss.filter (inT a b)).length (flat (ss.filter (inT a b))) ∧ Below w.heap.size w w' := by
  have hb2 : Below w.heap.size w ((w.alloc (.cells #[.int .i64 a] 3)).alloc (.cells #[.int .i64 b] 3)) := ((Below.refl _ w).alloc (Nat.le_refl _) _).alloc (by simp) _
  have k0 : ((w.alloc (.cells #[.int .i64 a] 3)).alloc (.cells #[.int .i64 b] 3)).cell? ⟨w.heap.size, 0, none⟩ = some (.int .i64 a) := cell_of_one (alloc_old _ _ (heap_alloc_new w _))
  have k1 : ((w.alloc (.cells #[.int .i64 a] 3)).alloc (.cells #[.int .i64 b] 3)).cell? ⟨w.heap.size + 1, 0, none⟩ = some (.int .i64 b) := by
    have := cell_of_one (heap_alloc_new (w.alloc (.cells #[.int .i64 a] 3)) (.cells #[.int .i64 b] 3))
    rwa [World.size_alloc] at this
  have hsz : ((w.alloc (.cells #[.int .i64 a] 3)).alloc (.cells #[.int .i64 b] 3)).heap.size = w.heap.size + 2 := by simp
  have hmf : ∀ (fn : Fn) (first cap : Array Value) (w : World), (Instr.makeFunc fn first cap).run Try.prog w = .ok (.func fn first cap) w := fun _ _ _ _ => rfl
  have fin : ∀ w2 : World, Below w.heap.size w w2 → w2.cell? ⟨w.heap.size, 0, none⟩ = some (.int .i64 a) → w2.cell? ⟨w.heap.size + 1, 0, none⟩ = some (.int .i64 b) → w2.heap.size = w.heap.size + 2 →
      Calls Try.prog 35 #[.slice A n c, .func (.func 36) #[] #[.pointer (some ⟨w.heap.size, 0, none⟩), .pointer (some ⟨w.heap.size + 1, 0, none⟩)]] w2 fun e w' =>
        ∃ v, e = .returned v ∧ w'.ownsRow w2.heap.size 38 3 v (ss.filter (inT a b)).length (flat (ss.filter (inT a b))) ∧ Below w2.heap.size w2 w' := by
    intro w2 hb k0 k1 hsz
    exact selected_any A n c 36 _ _ (inT a b) ss w2 ((h.below hb).more hb.size) hn (fun _ _ => rfl) (fun s w' hw => cond_any a b s _ _ w' ((hw.cell (p := ⟨w.heap.size, 0, none⟩) (by show w.heap.size < w2.heap.size; omega)).trans k0) ((hw.cell (p := ⟨w.heap.size + 1, 0, none⟩) (by show w.heap.size + 1 < w2.heap.size; omega)).trans k1) (by have := hw.size; omega) (by have := hw.size; omega))
  have FIN := Lib.hid (fin _ hb2 k0 k1 hsz)
  have HB2 := Lib.hid hb2
  clear fin h hb2 k0 k1 hsz
  go_enter Try.func13, Try.ntmps13
  go_wp2_with fail
  refine FIN.out.mono ?_
  rintro e1 w1 ⟨v1, rfl, hown1, hb1⟩
  have HO1 := Lib.hid hown1
  have HB1 := Lib.hid (HB2.out.trans (hb1.mono HB2.out.size))
  clear hown1 hb1
  go_wp2
  go_ret
  exact ⟨v1, rfl, own3_base HO1.out HB2.out.size, HB1.out⟩
end Go.Proofs.Ytmpihllcmdgapaa.Trc

/- Layer 6 (trace): TraceTells as a walk. -/
namespace Go.Proofs.Ytmpihllcmdgapaa.Trc
open Go.RowKit Var Fld Smp

set_option maxHeartbeats 3200000 in
set_option maxRecDepth 100000 in
theorem tells_walk (A : Option Addr) (n c : Nat) (ss : List S) (a b : Int) (w : World) (h : SRow w w.heap.size A n ss) (hn : n ≤ maxLen) :
    Calls Try.prog 4 #[.slice A n c, .int .i64 a, .int .i64 b] w fun e w' => e = .returned (.bool true) ∧ Below w.heap.size w w' := by
  obtain ⟨i0, hi, hz0, hz1, hz2⟩ := info_parts info_smp
  have H := Lib.hid h
  have HN := Lib.hid hn
  have HL := Lib.hid h.len
  clear h hn
  go_enter Try.func4, Try.ntmps4
  go_wp2_with fail
  refine (awake_any _).mono ?_
  rintro e1 w1 ⟨rfl, hb1⟩
  have HB1 := Lib.hid hb1
  clear hb1
  by_cases hbig : 500 < n
  · go_wp2
    go_ret
    exact ⟨rfl, HB1.out⟩
  · go_wp2
    go_loopw [7, 17] (fun v i wr => ∃ k : Nat, k ≤ n ∧ i = .int .i64 (k : Int) ∧ Hid (wr.ownsRow w.heap.size 38 3 v ((ss.take k).filter (inT a b)).length (flat ((ss.take k).filter (inT a b)))) ∧ Hid (Below w.heap.size w wr)) (fun _ i _ => n - (intOf i).toNat)
    case atStart => exact ⟨0, Nat.zero_le _, rfl, World.ownsRow_nil _ _ _ _, HB1.out⟩
    case round =>
      obtain ⟨k, hk, rfl, HO, HB⟩ := hrel
      by_cases hlt : k < n
      · obtain ⟨bb, o, s, rfl, hbl, hs, hok, c0, c1, c2⟩ := (H.out.below HB.out).at hlt
        have hkw : IntKind.i64.wrap ((k : Int) + 1) = (k : Int) + 1 := IntWalk.i64_in _ ⟨by omega, by omega⟩
        have HB1 := Lib.hid (HB.out.alloc HB.out.size (.cells #[.int .i64 s.t, .int .i64 s.x, .int .i64 s.y] 38))
        have HO1 : Hid ((wr.alloc (.cells #[.int .i64 s.t, .int .i64 s.x, .int .i64 s.y] 38)).ownsRow w.heap.size 38 3 u7 ((ss.take k).filter (inT a b)).length (flat ((ss.take k).filter (inT a b)))) := own3_only HO.out (Only.alloc (M := fun _ => False) wr _) (fun _ _ h => h)
        have HN := Lib.hid (filter_next (f := inT a b) hs)
        have hfl : ((ss.take k).filter (inT a b)).length ≤ 10000 := by
          have := List.length_filter_le (inT a b) (ss.take k)
          rw [List.length_take] at this
          omega
        clear hs hok HO
        by_cases d1 : a ≤ s.t
        case' pos =>
          have e1 : decide (a ≤ s.t) = true := decide_eq_true d1
        case' neg =>
          have e1 : decide (a ≤ s.t) = false := decide_eq_false d1
          have hf : inT a b s = false := by unfold inT; rw [e1]; rfl
          rw [hf] at HN
          simp only [Bool.false_eq_true, if_false, List.append_nil] at HN
          clear hf
          go_wp2
          go_roundw
          case' rel => exact ⟨k + 1, by omega, by go_num, by rw [HN.out]; exact HO1.out, HB1.out⟩
          case' measure => simp [intOf]; omega
        by_cases d2 : s.t ≤ b
        case' neg =>
          have e2 : decide (s.t ≤ b) = false := decide_eq_false d2
          have hf : inT a b s = false := by unfold inT; rw [e1, e2]; rfl
          rw [hf] at HN
          simp only [Bool.false_eq_true, if_false, List.append_nil] at HN
          clear hf
          go_wp2
          go_roundw
          case' rel => exact ⟨k + 1, by omega, by go_num, by rw [HN.out]; exact HO1.out, HB1.out⟩
          case' measure => simp [intOf]; omega
        have e2 : decide (s.t ≤ b) = true := decide_eq_true d2
        have hf : inT a b s = true := by unfold inT; rw [e1, e2]; rfl
        rw [hf] at HN
        simp only [if_true] at HN
        clear hf
        generalize (ss.take k).filter (inT a b) = acc at HN HO1 hfl
        obtain ⟨A', c', rfl, -⟩ := own3_slice HO1.out
        have HDO1 : Hid (((wr.alloc (.cells #[.int .i64 s.t, .int .i64 s.x, .int .i64 s.y] 38)).alloc (.cells #[.int .i64 s.t, .int .i64 s.x, .int .i64 s.y] 38)).ownsRow w.heap.size 38 3 (.slice A' acc.length c') acc.length (flat acc)) := own3_only HO1.out (Only.alloc (M := fun _ => False) _ _) (fun _ _ h => h)
        have hnew := new3 (wr.alloc (.cells #[.int .i64 s.t, .int .i64 s.x, .int .i64 s.y] 38)) s 38
        rw [World.size_alloc] at hnew
        have HNEW := Lib.hid hnew
        clear hnew
        go_wp2_with (at_builtin; refine wpList_append_own _ rfl (.tmp 31) (.tmp 33) 22 rfl w.heap.size 38 i0 (.agg #[.int .i64 0, .int .i64 0, .int .i64 0]) 3 24 Try.underlying22 hi hz0 hz1 hz2 rfl (by decide +kernel) _ acc.length (flat acc) rfl HDO1.out ⟨wr.heap.size + 1, 0, none⟩ 1 1 [.int .i64 s.t, .int .i64 s.x, .int .i64 s.y] rfl rfl HNEW.out (by intro u hu; simp at hu; rcases hu with rfl | rfl | rfl <;> rfl) (by unfold maxLen; omega) (by omega) (by simp; have := HB.out.size; omega) ?_; intro v2 w2 hown2 hgrow _; have HO2 := Lib.hid hown2; have HGR := Lib.hid hgrow; clear hown2 hgrow)
        have hvlt : ∀ i, (Value.slice A' acc.length c').ownBlock = some i → w.heap.size ≤ i := fun i hi => (own3_lt HO1.out hi).1
        have oA := Only.of_grown HGR.out
        have hb2 : Below w.heap.size w w2 := (HB1.out.alloc HB1.out.size _).trans (oA.below (by simp; have := HB.out.size; omega) (fun i hi => by have := hvlt i hi; omega))
        go_wp2
        go_roundw
        case rel =>
          refine ⟨k + 1, by omega, by go_num, ?_, hb2⟩
          rw [HN.out, flat_snoc, List.length_append]
          exact HO2.out
        case measure => simp [intOf]; omega
      · have hkn : k = n := by omega
        have ht : ss.take k = ss := List.take_of_length_le (by rw [HL.out]; omega)
        rw [ht] at HO
        have hfl : (ss.filter (inT a b)).length ≤ 500 := by
          have := List.length_filter_le (inT a b) ss
          have := HL.out
          omega
        have HSR := Lib.hid ((H.out.below HB.out).more HB.out.size)
        have HOK : Hid (∀ s ∈ ss.filter (inT a b), s.ok) := fun s hs => H.out.2.1 s (List.mem_filter.1 hs).1
        obtain ⟨A7, c7, rfl, -⟩ := own3_slice HO.out
        clear ht
        go_wp2_with fail
        refine (between_any A n c a b ss wr HSR.out (by omega)).mono ?_
        rintro e2 w2 ⟨v2, rfl, hown2, hb2⟩
        obtain ⟨A2, c2, rfl, -⟩ := own3_slice hown2
        have HR7 := Lib.hid ((SRow.of_own HO.out HOK.out).below hb2)
        have HR2 := Lib.hid (SRow.of_own hown2 HOK.out)
        have HB2 := Lib.hid (HB.out.trans (hb2.mono HB.out.size))
        clear hown2 hb2 HO HOK
        go_wp2_with fail
        refine (alike_any A2 A7 _ c2 c7 _ _ (ss.filter (inT a b)) w2 (by omega) HR2.out HR7.out).mono ?_
        rintro e3 w3 ⟨rfl, q3, rfl⟩
        have HB3 : Hid (Below w.heap.size w (w2.drewN q3)) := by
          have := HB2.out
          exact ⟨this.os, this.tape, this.output, this.size, this.block⟩
        clear HB2 HR7 HR2 HSR
        generalize w2.drewN q3 = w3 at HB3 ⊢
        go_wp2_with fail
        refine (right_any A n c ss w3 ((H.out.below HB3.out).more HB3.out.size) (by omega)).mono ?_
        rintro e4 w4 ⟨rfl, hb4⟩
        have HB4 := Lib.hid (HB3.out.trans (hb4.mono HB3.out.size))
        clear hb4 HB3
        cases hg : good ss with
        | false =>
          go_wp2
          go_ret
          exact ⟨rfl, HB4.out⟩
        | true =>
          have HM : Hid (∀ s ∈ ss, may s = true) := fun s hs => good_may hg hs
          go_wp2_with fail
          refine (length_any A n c w.heap.size ss w4 (H.out.below HB4.out) HM.out (by omega)).mono ?_
          rintro e5 w5 ⟨rfl, q5, rfl⟩
          have HB5 : Hid (Below w.heap.size w (w4.drewN q5)) := by
            have := HB4.out
            exact ⟨this.os, this.tape, this.output, this.size, this.block⟩
          clear HB4
          generalize w4.drewN q5 = w5 at HB5 ⊢
          go_wp2_with fail
          refine (reflength_any A n c w.heap.size ss w5 (H.out.below HB5.out) HM.out (by omega)).mono ?_
          rintro e6 w6 ⟨rfl, hd6⟩
          have HB6 := Lib.hid (hd6.below _ HB5.out)
          have he1 : (len ss (n - 1) == len ss (n - 1)) = true := beq_self_eq_true _
          clear HB5 hd6
          go_wp2_with fail
          refine (gap_any A n c w.heap.size ss w6 (H.out.below HB6.out) HM.out (by omega)).mono ?_
          rintro e7 w7 ⟨rfl, q7, rfl⟩
          have HB7 : Hid (Below w.heap.size w (w6.drewN q7)) := by
            have := HB6.out
            exact ⟨this.os, this.tape, this.output, this.size, this.block⟩
          clear HB6
          generalize w6.drewN q7 = w7 at HB7 ⊢
          go_wp2_with fail
          refine (refgap_any A n c w.heap.size ss w7 (H.out.below HB7.out) HM.out (by omega)).mono ?_
          rintro e8 w8 ⟨rfl, hd8⟩
          have HB8 := Lib.hid (hd8.below _ HB7.out)
          have he2 : (gap ss (n - 1) == gap ss (n - 1)) = true := beq_self_eq_true _
          clear HB7 hd8
          go_wp2
          go_ret
          exact ⟨rfl, HB8.out⟩
end Go.Proofs.Ytmpihllcmdgapaa.Trc

/- The last step of a law's row, over any program: a call that returned true and left all old memory as it was meets 'true; the input reads as it did'. -/
namespace Go.Proofs.Ytmpihllcmdgapaa
open Go.ChangeShapes Go.WideShapes Go.ChangeAt Go.RowKit

section
variable {H : Type} {enc : TypeId × Value → H} {P : Program} {W W' : World}

theorem trodAll_stays (hl : laidOutB P = true) (hb : Below W.heap.size W W') : ∀ {ts : List TypeId} {vs : List Value} {ds : List (DataW H)} {ps : List MemPlace},
    ts.all (fun t => P.readableRec t && decide (t < P.types.size)) = true → DataW.TrodAll enc P W 0 (fun _ => true) true ts vs ds ps → (∀ x ∈ ps, x.block < W.heap.size) →
    DataW.TrodAll enc P W' 0 (fun b => decide (b < W.heap.size)) true ts vs ds ps
  | [], _, _, _, _, h, _ => by
    obtain ⟨rfl, rfl, rfl⟩ := trodAll_nil h
    exact trodAll_mk0
  | t :: ts, _, _, _, ht, h, hp => by
    obtain ⟨v, vs, d, ds, a, b, rfl, rfl, rfl, h1, h2⟩ := trodAll_cons h
    simp only [List.all_cons, Bool.and_eq_true, decide_eq_true_eq] at ht
    exact trodAll_cons_mk (Below.trod hl ht.1.1 ht.1.2 h1 hb (fun x hx => hp x (List.mem_append_left _ hx)))
      (trodAll_stays hl hb (by simpa using ht.2) h2 (fun x hx => hp x (List.mem_append_right _ hx)))

/-- A law's post: true came back, old memory is as it was. -/
theorem law_post {f : Func} {s : ChangeSpec} {tb : TypeId} {args : Array Value} {ds : List (DataW H)} {before : List MemPlace}
    (hl : laidOutB P = true) (hts : f.params.toList.all (fun t => P.readableRec t && decide (t < P.types.size)) = true) (hr : f.resultTypes = #[tb]) (htb : P.underlying tb = some .bool) (hv : s.vars = [])
    (hW : DataW.Whole enc P f.params.toList s.vars false W args.toList ds [] before) (hfn : s.fn H ds = { results := [.lit (.bool true)], args := ds }) (hb : Below W.heap.size W W') :
    s.post enc P f false true false false W args (.bool true) W' := by
  have hW' := hW
  obtain ⟨p, q, hA, hV, rfl, _, _⟩ := hW
  rw [hv] at hV
  obtain ⟨_, rfl⟩ := trodVars_none hV
  refine ⟨ds, [], p ++ [], [], p, [], hW', ?_, ?_, ?_, hb.frame _, fun h => by cases h⟩
  · rw [List.append_nil, hfn, hr]
    exact trodAll_cons_mk (shut_bool htb _) trodAll_mk0
  · rw [List.append_nil, hfn]
    exact trodAll_stays hl hb hts hA (fun x hx => hW'.lt x (List.mem_append_left _ hx))
  · rw [List.append_nil, hfn, hv]
    rfl
end

/-- What opening a slice of integers gives, as 'Row'. -/
theorem row_of_open {k : IntKind} {w : World} {a : Addr} {len : Nat} {zs : List Int} (hl : len ≤ zs.length) (hc : ∀ i, i < zs.length → w.cell? (a.add i) = some (.int k (zs.getD i 0))) : Row k w w.heap.size (some a) len (zs.take len) := by
  refine ⟨by simp; omega, fun hn => ?_⟩
  obtain ⟨b, o, rfl, hcell⟩ := ints_at hc (by omega)
  refine ⟨b, o, rfl, World.block_lt_of_cell? w _ (hcell 0 (by omega)), fun j hj => ?_⟩
  rw [hcell j (by omega)]
  simp [List.getD, hj]
end Go.Proofs.Ytmpihllcmdgapaa
