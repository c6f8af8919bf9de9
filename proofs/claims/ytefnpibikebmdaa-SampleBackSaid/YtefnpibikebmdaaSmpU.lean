/- Layer 5 (sample): the reference's Take, as a contract. -/
import Derived.Test.YtefnpibikebmdaaSmpT
import Derived.Test.YtefnpibikebmdaaFldQ0
namespace Go.Proofs.Ytefnpibikebmdaa.Smp
open Go.RowKit Var Fld

section
variable {g N n c at_ : Nat} {A : Option Addr} {bs xs : List Int} {w : World}
theorem refT (h : Rfr w g N A n c bs at_ 0) (hx : bs.drop at_ = xs) : Calls Try.prog 24 #[.pointer (some ⟨g, 0, none⟩), .int .i64 1099511627776] w fun r w' =>
    r = .returned (.int .i64 (tT xs)) ∧ (∃ at1, Rfr w' g N A n c bs at1 (r1 xs).2 ∧ bs.drop at1 = (r1 xs).1) ∧ Only (fun k => k = g) w w' := by
  have := refnum_any g N n c at_ 0 A bs 1099511627776 w h (by omega) (by omega)
  rw [hx] at this
  refine this.mono ?_
  rintro r w' ⟨a, ⟨at1, b, d⟩, e⟩
  rw [hx] at b d
  exact ⟨a, ⟨at1, b, d⟩, e⟩
theorem refX (h : Rfr w g N A n c bs at_ (r1 xs).2) (hx : bs.drop at_ = (r1 xs).1) : Calls Try.prog 25 #[.pointer (some ⟨g, 0, none⟩), .int .i64 67108864] w fun r w' =>
    r = .returned (.int .i64 (tX xs)) ∧ (∃ at1, Rfr w' g N A n c bs at1 (r2 xs).2 ∧ bs.drop at1 = (r2 xs).1) ∧ Only (fun k => k = g) w w' := by
  have := refsgn_any g N n c at_ (r1 xs).2 A bs 67108864 w h (by omega) (by omega)
  rw [hx] at this
  refine this.mono ?_
  rintro r w' ⟨a, ⟨at1, b, d⟩, e⟩
  rw [hx] at b d
  exact ⟨a, ⟨at1, b, d⟩, e⟩
theorem refY (h : Rfr w g N A n c bs at_ (r2 xs).2) (hx : bs.drop at_ = (r2 xs).1) : Calls Try.prog 25 #[.pointer (some ⟨g, 0, none⟩), .int .i64 67108864] w fun r w' =>
    r = .returned (.int .i64 (tY xs)) ∧ (∃ at1, Rfr w' g N A n c bs at1 (r3 xs).2 ∧ bs.drop at1 = (r3 xs).1) ∧ Only (fun k => k = g) w w' := by
  have := refsgn_any g N n c at_ (r2 xs).2 A bs 67108864 w h (by omega) (by omega)
  rw [hx] at this
  refine this.mono ?_
  rintro r w' ⟨a, ⟨at1, b, d⟩, e⟩
  rw [hx] at b d
  exact ⟨a, ⟨at1, b, d⟩, e⟩
end

/-- The reference's Take on its way. -/
structure USt (w0 w : World) (base g ga : Nat) (A : Option Addr) (n c : Nat) (bs : List Int) (acc : List S) (v : Value) (at_ : Nat) : Prop where
  rf : Rfr w g w0.heap.size A n c bs at_ 0
  la : w.heap[ga]? = some (.cells (las acc).cells 32 (0, 0))
  own : w.ownsRow base 32 3 v acc.length (flat acc)
  g1 : w0.heap.size ≤ g
  g2 : g < ga
  g3 : ga < base
  bs : base ≤ w.heap.size
  bel : Below w0.heap.size w0 w

theorem reftk_bd {bs : List Int} {q at_ : Nat} {acc : List S} (hb : ∀ x ∈ bs, 0 ≤ x ∧ x ≤ 255) (hat : at_ ≤ bs.length) (h : tk q [] bs = (acc, bs.drop at_, 0)) : at_ = (enc acc).length := by
  have := (tk_ok q [] bs hb good_nil (by rw [h])).2.2
  rw [h] at this
  have hl := congrArg List.length this
  simp [enc, encF] at hl
  have e : (enc acc).length = (encF zS acc).length := rfl
  omega

set_option maxHeartbeats 3200000 in
set_option maxRecDepth 100000 in
theorem reftake_any (A : Option Addr) (n c : Nat) (bs : List Int) (k : Int) (w : World) (h : Row .u8 w w.heap.size A n bs) (hnil : A = none → c = 0) (hnc : n ≤ c) (hn : n ≤ 4398046511104) (hbyt : ∀ x ∈ bs, 0 ≤ x ∧ x ≤ 255) :
    Calls Try.prog 13 #[.slice A n c, .int .i64 k] w (TakeTo bs k w) := by
  have H := Lib.hid h
  have HNIL := Lib.hid hnil
  have HN := Lib.hid hn
  have HNC := Lib.hid hnc
  have HY := Lib.hid hbyt
  clear h hnil hn hbyt hnc
  by_cases hbad : k < 0 ∨ 2048 < k
  · have he : tkE bs k = 3 := by unfold tkE; rw [if_pos hbad]
    by_cases h0 : k < 0
    · have hd0 : decide (k < 0) = true := decide_eq_true h0
      go_enter Try.func13, Try.ntmps13
      go_wp2
      go_ret3
      exact takeTo_no (e := 3) he (by omega) (Below.refl _ _)
    · have hd0 : decide (k < 0) = false := decide_eq_false h0
      have hd1 : decide (2048 < k) = true := decide_eq_true (by omega)
      go_enter Try.func13, Try.ntmps13
      go_wp2
      go_ret3
      exact takeTo_no (e := 3) he (by omega) (Below.refl _ _)
  · obtain ⟨q, rfl⟩ := Int.eq_ofNat_of_zero_le (show 0 ≤ k by omega)
    have hq : q ≤ 2048 := by omega
    have heE : tkE bs (q : Int) = (tk q [] bs).2.2 := by unfold tkE; rw [if_neg hbad]; rfl
    have HEE := Lib.hid heE
    clear heE hbad
    have hd0 : decide ((q : Int) < 0) = false := decide_eq_false (by omega)
    have hd1 : decide (2048 < (q : Int)) = false := decide_eq_false (by omega)
    go_enter Try.func13, Try.ntmps13
    go_wp2_with fail
    refine (refread_any A n c bs w.heap.size w H.out (Nat.le_refl _) HNC.out HNIL.out HN.out HY.out).mono ?_
    rintro e1 w1 ⟨rfl, hrf, hb1⟩
    have HRF := Lib.hid hrf
    have HB1 := Lib.hid hb1
    have hgl := hrf.lt
    clear hrf hb1
    go_wp2
    go_loopw [8, 10] (fun vo i wr => ∃ (m : Nat) (acc : List S) (at_ : Nat), m ≤ q ∧ i = .int .i64 (m : Int) ∧ acc.length = m ∧ Hid (good acc = true) ∧ Hid (USt w wr (w1.heap.size + 1) w.heap.size w1.heap.size A n c bs acc vo at_) ∧ Hid (tk (q - m) acc (bs.drop at_) = tk q [] bs)) (fun _ i _ => q - (intOf i).toNat)
    case atStart =>
      refine ⟨0, [], 0, Nat.zero_le _, rfl, rfl, rfl, ⟨HRF.out.only (M := fun _ => False) (Only.alloc _ _) (fun h => h) (fun _ _ h => h), heap_alloc_new w1 _, World.ownsRow_nil _ _ _ _, Nat.le_refl _, hgl, by omega, by simp, HB1.out.alloc HB1.out.size _⟩, rfl⟩
    case round =>
      obtain ⟨m, acc, at_, hm, rfl, hacc, HG, HU, HT⟩ := hrel
      by_cases hlt : m < q
      · have htk : tk (q - m) acc (bs.drop at_) = if (r3 (bs.drop at_)).2 ≠ 0 then ([], [], (r3 (bs.drop at_)).2) else if okp acc (nx acc (bs.drop at_)) = true then tk (q - (m + 1)) (acc ++ [nx acc (bs.drop at_)]) (r3 (bs.drop at_)).1 else ([], [], 2) := by
          rw [show q - m = (q - (m + 1)) + 1 by omega]
          rfl
        obtain ⟨xs, hx⟩ : ∃ xs, bs.drop at_ = xs := ⟨_, rfl⟩
        have hbx : ∀ y ∈ xs, 0 ≤ y ∧ y ≤ 255 := fun y hy => HY.out y (List.mem_of_mem_drop (by rw [hx]; exact hy))
        have HTK := Lib.hid (HT.out.symm.trans htk)
        rw [hx] at HTK
        have HX := Lib.hid hx
        have HBX := Lib.hid hbx
        have hmw : IntKind.i64.wrap ((m : Int) + 1) = (m : Int) + 1 := IntWalk.i64_in _ ⟨by omega, by omega⟩
        have HACC := Lib.hid hacc
        clear htk HT hx hbx hacc
        go_wp2_with fail
        refine (refT HU.out.rf HX.out).mono ?_
        rintro e2 w2 ⟨rfl, ⟨at1, hr1, hx1⟩, ho1⟩
        have HR1 := Lib.hid hr1
        have HX1 := Lib.hid hx1
        have HO1 := Lib.hid ho1
        clear hr1 hx1 ho1
        go_wp2_with fail
        refine (refX HR1.out HX1.out).mono ?_
        rintro e3 w3 ⟨rfl, ⟨at2, hr2, hx2⟩, ho2⟩
        have HR2 := Lib.hid hr2
        have HX2 := Lib.hid hx2
        have HO2 := Lib.hid (HO1.out.trans ho2 (fun _ _ h => h))
        clear hr2 hx2 ho2
        go_wp2_with fail
        refine (refY HR2.out HX2.out).mono ?_
        rintro e4 w4 ⟨rfl, ⟨at3, hr3, hx3⟩, ho3⟩
        have HR3 := Lib.hid hr3
        have HX3 := Lib.hid hx3
        have HO3 := Lib.hid (HO2.out.trans ho3 (fun _ _ h => h))
        have b2 := hr3.rf.c2
        have hg2 := HU.out.g2
        have hgb := HU.out.bs
        have HLA := Lib.hid (HO3.out.at HU.out.la (by omega))
        have HOW := Lib.hid (own3_only HU.out.own HO3.out (fun i hi h => by have := (own3_lt HU.out.own hi).1; omega))
        have HBE : Hid (Below w.heap.size w w4) := HU.out.bel.trans (HO3.out.below HU.out.bel.size (fun i hi => by omega))
        have hs4 := HO3.out.size
        clear hr3 hx3 ho3 HO1 HO2 HR1 HX1 HR2 HX2
        by_cases her : (r3 xs).2 = 0
        · have hez : (((r3 xs).2 : Int) == 0) = true := beq_iff_eq.2 (by omega)
          obtain ⟨-, t1, t2, t3, t4, t5, t6⟩ := trip_ok HBX.out her
          have hla : 0 ≤ (las acc).t ∧ (las acc).t ≤ 1099511627776 ∧ 0 ≤ (las acc).x ∧ (las acc).x < 67108864 ∧ 0 ≤ (las acc).y ∧ (las acc).y < 67108864 := by
            rcases las_may (l := acc) (fun u hu => good_may HG.out hu) with ha | ha
            · exact may_iff.1 ha
            · rw [ha]; unfold zS; simp
          obtain ⟨s, hs⟩ : ∃ s, nx acc xs = s := ⟨_, rfl⟩
          have v1 : IntKind.i64.wrap ((las acc).t + tT xs) = s.t := (IntWalk.i64_in _ ⟨by omega, by omega⟩).trans (by rw [← hs]; rfl)
          have v2 : IntKind.i64.wrap ((las acc).x + tX xs) = s.x := (IntWalk.i64_in _ ⟨by omega, by omega⟩).trans (by rw [← hs]; rfl)
          have v3 : IntKind.i64.wrap ((las acc).y + tY xs) = s.y := (IntWalk.i64_in _ ⟨by omega, by omega⟩).trans (by rw [← hs]; rfl)
          have hst : s.t = (las acc).t + tT xs := by rw [← hs]; rfl
          have HST := Lib.hid hst
          have HT0 := Lib.hid t1
          rw [hs, if_neg (by rw [her]; simp)] at HTK
          rw [her] at HR3 b2
          clear hla t1 t2 t3 t4 t5 t6 hst hs
          obtain ⟨⟨y0, y1, y2⟩, f0, f1, f2⟩ := three HLA.out
          obtain ⟨⟨g1, e1⟩, ⟨g2, e2⟩, hq, hO⟩ := sets (s := s) HLA.out
          obtain ⟨⟨z0, z1, z2⟩, -⟩ := three hq
          have HLA' := Lib.hid hq
          have HOW' := Lib.hid (own3_only HOW.out hO (fun i hi h => by have := (own3_lt HOW.out hi).1; omega))
          have HRF' := Lib.hid (HR3.out.only hO (by omega) (fun i hi => by omega))
          have HBE' : Hid (Below w.heap.size w (((w4.setCell ⟨w1.heap.size, 0, none⟩ (.int .i64 s.t)).setCell ⟨w1.heap.size, 1, none⟩ (.int .i64 s.x)).setCell ⟨w1.heap.size, 2, none⟩ (.int .i64 s.y))) := HBE.out.trans (hO.below HBE.out.size (fun i hi => by omega))
          have hs5 := hO.size
          clear hq hO
          go_wp2_with fail
          refine (refmay_on s _).mono ?_
          rintro e5 w5 ⟨rfl, hb5⟩
          have HLA5 := Lib.hid ((hb5.block _ (Array.getElem?_eq_some_iff.1 HLA'.out).1).trans HLA'.out)
          have HOW5 := Lib.hid (own3_only HOW'.out (M := fun _ => False) (Only.of_below hb5) (fun _ _ h => h))
          have HRF5 := Lib.hid (HRF'.out.only (M := fun _ => False) (Only.of_below hb5) (fun h => h) (fun _ _ h => h))
          have HBE5 := Lib.hid (HBE'.out.trans (hb5.mono HBE'.out.size))
          have hs6 := hb5.size
          have hs7 : w1.heap.size + 1 ≤ w5.heap.size := by omega
          clear hb5 HLA' HOW' HRF' HBE' y0 y1 y2 f0 f1 f2 g1 e1 g2 e2 z0 z1 z2 HLA HOW HR3 HBE hs4 hs5 hs6
          cases hms : may s with
          | false =>
            have hokp : okp acc s = false := by unfold okp; rw [hms]; rfl
            have he : tkE bs (q : Int) = 2 := by rw [HEE.out, HTK.out, if_neg (by rw [hokp]; simp)]
            go_wp2
            go_ret3
            exact takeTo_no (e := 2) he (by omega) HBE5.out
          | true =>
            by_cases hbad : m ≠ 0 ∧ tT xs = 0
            · have hk0 : 0 < m := by omega
              have hz2 : (tT xs == 0) = true := beq_iff_eq.2 hbad.2
              have hokp : okp acc s = false := by
                have := HST.out
                unfold okp
                rw [hms, HACC.out, decide_eq_false (show ¬ m = 0 by omega), decide_eq_false (show ¬ (las acc).t < s.t by omega)]
                rfl
              have he : tkE bs (q : Int) = 2 := by rw [HEE.out, HTK.out, if_neg (by rw [hokp]; simp)]
              go_wp2
              go_ret3
              exact takeTo_no (e := 2) he (by omega) HBE5.out
            · have hokp : okp acc s = true := by
                have := HST.out
                have := HT0.out
                unfold okp
                rw [hms, HACC.out]
                by_cases h0 : m = 0
                · simp [h0]
                · simp; omega
              have HOK := Lib.hid hokp
              obtain ⟨i0, hi, hz0, hz1, hz2⟩ := info_parts info_smp
              obtain ⟨⟨m0, m1, m2⟩, -⟩ := three HLA5.out
              obtain ⟨A', c', rfl, -⟩ := own3_slice HOW5.out
              have HDO1 : Hid ((w5.alloc (.cells #[.int .i64 s.t, .int .i64 s.x, .int .i64 s.y] 32)).ownsRow (w1.heap.size + 1) 32 3 (.slice A' acc.length c') acc.length (flat acc)) := own3_only HOW5.out (Only.alloc (M := fun _ => False) w5 _) (fun _ _ h => h)
              have HNEW := Lib.hid (new3 w5 s 32)
              have hl2 : acc.length ≤ 2048 := by have := HACC.out; omega
              clear hokp
              by_cases h0 : m = 0
              case' pos =>
                have hd2 : decide (0 < m) = false := decide_eq_false (by omega)
                clear hbad h0
                go_wp2_with (at_builtin; refine wpList_append_own _ rfl (.tmp 67) (.tmp 69) 22 rfl (w1.heap.size + 1) 32 i0 (.agg #[.int .i64 0, .int .i64 0, .int .i64 0]) 3 24 Try.underlying22 hi hz0 hz1 hz2 rfl (by decide) _ acc.length (flat acc) rfl HDO1.out ⟨w5.heap.size, 0, none⟩ 1 1 [.int .i64 s.t, .int .i64 s.x, .int .i64 s.y] rfl rfl HNEW.out (by intro u hu; simp at hu; rcases hu with rfl | rfl | rfl <;> rfl) (by unfold maxLen; omega) (by omega) (by simp; omega) ?_; intro v1 wA hown1 hgrow _; have HO1 := Lib.hid hown1; have HGR := Lib.hid hgrow; clear hown1 hgrow)
              case' neg =>
                have hk0 : 0 < m := by omega
                have hz3 : (tT xs == 0) = false := beq_eq_false_iff_ne.2 (by omega)
                clear hbad h0
                go_wp2_with (at_builtin; refine wpList_append_own _ rfl (.tmp 67) (.tmp 69) 22 rfl (w1.heap.size + 1) 32 i0 (.agg #[.int .i64 0, .int .i64 0, .int .i64 0]) 3 24 Try.underlying22 hi hz0 hz1 hz2 rfl (by decide) _ acc.length (flat acc) rfl HDO1.out ⟨w5.heap.size, 0, none⟩ 1 1 [.int .i64 s.t, .int .i64 s.x, .int .i64 s.y] rfl rfl HNEW.out (by intro u hu; simp at hu; rcases hu with rfl | rfl | rfl <;> rfl) (by unfold maxLen; omega) (by omega) (by simp; omega) ?_; intro v1 wA hown1 hgrow _; have HO1 := Lib.hid hown1; have HGR := Lib.hid hgrow; clear hown1 hgrow)
              all_goals
                have oA := Only.of_grown HGR.out
                have hvlt : ∀ i, (Value.slice A' acc.length c').ownBlock = some i → w1.heap.size + 1 ≤ i := fun i hi => (own3_lt HOW5.out hi).1
                have hb6 : Below w.heap.size w wA := (HBE5.out.alloc HBE5.out.size _).trans (oA.below (by simp; have := HBE5.out.size; omega) (fun i hi => by have := hvlt i hi; omega))
                have HU6 : Hid (USt w wA (w1.heap.size + 1) w.heap.size w1.heap.size A n c bs (acc ++ [s]) v1 at3) := by
                  refine ⟨(HRF5.out.only (M := fun _ => False) (Only.alloc _ _) (fun h => h) (fun _ _ h => h)).only oA (fun h => by have := hvlt _ h; omega) (fun i hi h => by have := hvlt i h; omega), ?_, ?_, HU.out.g1, HU.out.g2, HU.out.g3, Nat.le_trans hs7 (Nat.le_trans (by simp) oA.size), hb6⟩
                  · rw [las_snoc]
                    exact oA.at (alloc_old w5 _ HLA5.out) (fun h => by have := hvlt _ h; omega)
                  · rw [flat_snoc, List.length_append]
                    exact HO1.out
                have HT6 : Hid (tk (q - (m + 1)) (acc ++ [s]) (bs.drop at3) = tk q [] bs) := by
                  have := HTK.out
                  rw [if_pos HOK.out] at this
                  unfold Hid
                  rw [HX3.out]
                  exact this.symm
                clear oA hvlt hb6
                go_wp2
                go_roundw
                case' rel => exact ⟨m + 1, acc ++ [s], at3, by omega, by go_num, by simp [HACC.out], good_snoc HG.out HOK.out, HU6.out, HT6.out⟩
                case' measure => simp [intOf]; omega
        · have hez : (((r3 xs).2 : Int) == 0) = false := beq_eq_false_iff_ne.2 (by omega)
          have he : tkE bs (q : Int) = (r3 xs).2 := by rw [HEE.out, HTK.out, if_pos her]
          have HE := Lib.hid he
          have HER := Lib.hid her
          clear he her
          go_wp2_with fail
          go_quiet (fail)
          go_wp2
          go_ret3
          exact takeTo_no HE.out HER.out ⟨HBE.out.os, HBE.out.tape, HBE.out.output, HBE.out.size, HBE.out.block⟩
      · have hmq : m = q := by omega
        subst hmq
        have t1 := HU.out.rf.rf.c1
        go_wp2_with fail
        go_quiet (fail)
        go_wp2
        go_ret3
        have htk : tk m [] bs = (acc, bs.drop at_, 0) := by
          rw [← HT.out, Nat.sub_self]
          rfl
        have hat := reftk_bd HY.out (by rw [H.out.len]; exact HU.out.rf.le) htk
        have e1 : tkE bs (m : Int) = 0 := HEE.out.trans (by rw [htk])
        have e2 : tkL bs (m : Int) = acc := by unfold tkL; rw [if_pos e1, Int.toNat_natCast, htk]
        have e3 : tkN bs (m : Int) = at_ := by unfold tkN; rw [if_pos e1, Int.toNat_natCast, htk, hat]
        have hb := HU.out.bel
        refine ⟨u8, by rw [e1, e3]; rfl, ?_, ⟨hb.os, hb.tape, hb.output, hb.size, hb.block⟩⟩
        rw [e2]
        exact own3_base (own3_only HU.out.own (M := fun _ => False) ⟨rfl, rfl, rfl, Nat.le_refl _, fun _ _ _ => rfl⟩ (fun _ _ h => h)) (by have := HB1.out.size; omega)
end Go.Proofs.Ytefnpibikebmdaa.Smp
