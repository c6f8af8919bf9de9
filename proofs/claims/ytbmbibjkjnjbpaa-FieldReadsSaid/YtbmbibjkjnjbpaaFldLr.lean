/- FieldReads as a walk: it returns true, whatever bytes and fields came in. -/
import Derived.Test.YtbmbibjkjnjbpaaFldQ
import Derived.Test.YtbmbibjkjnjbpaaFldL
import Derived.Test.YtbmbibjkjnjbpaaSame
import Derived.Deep.RegionHeld3
namespace Go.Proofs.Ytbmbibjkjnjbpaa.Fld
open Go.RowKit Var

set_option maxHeartbeats 3200000 in
set_option maxRecDepth 100000 in
theorem reads_walk (B : Option Addr) (m d : Nat) (bs : List Int) (A : Option Addr) (n c : Nat) (fs : List F) (w : World) (hr : Row .u8 w w.heap.size B m bs) (hmd : m ≤ d) (hnil : B = none → d = 0) (hby : ∀ x ∈ bs, 0 ≤ x ∧ x ≤ 255) (h : FRow w w.heap.size A n fs) (hn : n ≤ maxLen) :
    Calls Try.prog 4 #[.slice B m d, .slice A n c] w fun e w' => e = .returned (.bool true) ∧ Below w.heap.size w w' := by
  have H := Lib.hid h
  have HN := Lib.hid hn
  have HR := Lib.hid hr
  have HM := Lib.hid hmd
  have HI := Lib.hid hnil
  have HY := Lib.hid hby
  clear h hn hr hmd hnil hby
  go_enter Try.func4, Try.ntmps4
  go_wp2_with fail
  refine (awake_any _).mono ?_
  rintro e1 w1 ⟨rfl, hb1⟩
  have H1 := Lib.hid (H.out.below hb1)
  have HR1 := Lib.hid (HR.out.below hb1)
  have HB1 := Lib.hid hb1
  clear hb1
  by_cases hm : (2000 : Int) < (m : Int)
  · have hd : decide ((2000 : Int) < (m : Int)) = true := decide_eq_true hm
    go_wp2
    go_ret
    exact ⟨rfl, HB1.out⟩
  have hd : decide ((2000 : Int) < (m : Int)) = false := decide_eq_false hm
  go_wp2_with fail
  refine (small_any A n c fs _ (H1.out.more HB1.out.size) HN.out).mono ?_
  rintro e2 w2 ⟨rfl, hb2⟩
  have HB2 := Lib.hid (HB1.out.trans (hb2.mono HB1.out.size))
  have H2 := Lib.hid (H1.out.below (hb2.mono HB1.out.size))
  have HR2 := Lib.hid (HR1.out.below (hb2.mono HB1.out.size))
  clear hb2
  cases hsm : smallF fs with
  | false =>
    go_wp2
    go_ret
    exact ⟨rfl, HB2.out⟩
  | true =>
    have HSM := Lib.hid hsm
    have hn50 : n ≤ 50 := by rw [← H.out.1]; exact (small_len hsm).2
    clear hsm
    go_wp2_with fail
    refine (readR B m d _ bs w2 HR2.out HB2.out.size HI.out (by omega) HY.out).mono ?_
    rintro e3 w3 ⟨gP, rfl, hgP, hrd3, hb3⟩
    have HB3 := Lib.hid (HB2.out.trans (hb3.mono HB2.out.size))
    have HR3 := Lib.hid (HR2.out.below (hb3.mono HB2.out.size))
    have HRD3 := Lib.hid hrd3
    have HGP := Lib.hid (Nat.le_trans HB2.out.size hgP)
    clear hrd3 hb3 hgP
    go_wp2_with fail
    refine (refread_any B m d bs w.heap.size w3 HR3.out HB3.out.size HM.out HI.out (by omega) HY.out).mono ?_
    rintro e4 w4 ⟨rfl, hrf4, hb4⟩
    obtain ⟨gR, hgR⟩ : ∃ gR, w3.heap.size = gR := ⟨_, rfl⟩
    rw [hgR] at hrf4
    have HBo : Hid (Both w w4 gP gR w.heap.size B m d bs bs 0 0) :=
      ⟨HRD3.out.below hb4, hrf4, fun _ => by simp, by rw [← hgR]; exact HRD3.out.lt, HGP.out, Nat.le_refl _, by rw [HR.out.len]; omega, HB3.out.trans (hb4.mono HB3.out.size)⟩
    clear hrf4 hb4
    rw [hgR]
    clear hgR
    go_wp2
    go_loopw [27] (fun i wr => ∃ (k : Nat) (xs : List Int) (at_ e : Nat), k ≤ n ∧ i = .int .i64 (k : Int) ∧ Hid (Both w wr gP gR w.heap.size B m d bs xs at_ e)) (fun i _ => n - (intOf i).toNat)
    case atStart => exact ⟨0, bs, 0, 0, Nat.zero_le _, rfl, HBo.out⟩
    case round =>
      obtain ⟨k, xs, at_, e, hk, rfl, HT⟩ := hrel
      by_cases hlt : k < n
      · obtain ⟨b, o, f, rfl, hbl, hf, hok, c0, c1, c2, c3⟩ := (H.out.below HT.out.bel).at hlt
        have HOK := Lib.hid hok
        have hfg := HT.out.rf.lt
        have hfp := HT.out.lt
        obtain ⟨fb, hfb⟩ : ∃ fb, wr.heap.size = fb := ⟨_, rfl⟩
        have m0 : (wr.alloc (.cells #[.int .i64 f.kind, .int .i64 f.val, .int .i64 f.most, .slice f.A f.n f.c] 38)).cell? ⟨wr.heap.size, 2, none⟩ = some (.int .i64 f.most) := cell_of_blk (heap_alloc_new _ _) rfl
        have HTA := Lib.hid (HT.out.below ((Below.refl _ _).alloc (Nat.le_refl _) (.cells #[.int .i64 f.kind, .int .i64 f.val, .int .i64 f.most, .slice f.A f.n f.c] 38)))
        rw [hfb] at m0 hfg
        have nP : ¬ fb = gP := by omega
        have nR : ¬ fb = gR := by omega
        clear hok hf
        by_cases h1 : f.kind = 1
        · have hb1 : (f.kind == 1) = true := beq_iff_eq.2 h1
          clear h1
          obtain ⟨y, xs1, e1, C1, C2, hl1⟩ := pair_number (gP := gP) (gR := gR) (N := w.heap.size) (A := B) (n := m) (c := d) HT.out.eq HOK.out.m1 HOK.out.m2
          have HC1 : Hid (∀ wx, Rdr wx gP xs e → Calls Try.prog 15 #[.pointer (some ⟨gP, 0, none⟩), .int .i64 f.most] wx fun r w' => r = .returned (.int .i64 y) ∧ Rdr w' gP xs1 e1 ∧ Only (fun k => k = gP) wx w') := C1
          have HC2 : Hid (∀ wx, Rfr wx gR w.heap.size B m d bs at_ e → Calls Try.prog 16 #[.pointer (some ⟨gR, 0, none⟩), .int .i64 f.most] wx fun r w' => r = .returned (.int .i64 y) ∧ (∃ at1, Rfr w' gR w.heap.size B m d bs at1 e1 ∧ (e1 = 0 → bs.drop at1 = xs1)) ∧ Only (fun k => k = gR) wx w') := C2
          have HL1 := Lib.hid hl1
          clear C1 C2 hl1
          go_wp2_with fail
          generalize wr.alloc (.cells #[.int .i64 f.kind, .int .i64 f.val, .int .i64 f.most, .slice f.A f.n f.c] 38) = wA at m0 HTA ⊢
          have HTD := Lib.hid HTA.out.drew
          have m0' : wA.drew.cell? ⟨fb, 2, none⟩ = some (.int .i64 f.most) := m0
          go_region_held3 (fun wx => wx.cell? ⟨fb, 2, none⟩ = some (.int .i64 f.most)) (first | exact m0 | exact m1 | exact m2) (first
            | (go_at_call 15; refine (HC1.out _ HTD.out.rd).mono ?_; rintro r1 w5 ⟨rfl, hr5, ho5⟩; have m1 := Only.cell_at ho5 m0' nP; have HR5 := Lib.hid hr5; have HO5 := Lib.hid ho5; clear hr5 ho5)
            | (go_at_call 16; refine (HC2.out _ (HTD.out.mid HO5.out)).mono ?_; rintro r2 w6 ⟨rfl, ⟨at1, hf6, hd6⟩, ho6⟩; have m2 := Only.cell_at ho6 m1 nR; have HT6 := Lib.hid (HTD.out.step HR5.out HO5.out hf6 ho6 hd6 HL1.out); clear hf6 hd6 ho6))
          go_wp2_with fail
          have t2 := HT6.out.rf.rf.c2
          have tp := HT6.out.rf.lt
          go_quiet ((go_at_call 23; refine Calls.quiet_of_same (same_flip (errorR gP e1 xs1 _ (HT6.out.drewN _).rd))))
          go_wp2
          go_roundw
          case rel => exact ⟨k + 1, xs1, at1, e1, by omega, by go_num, (HT6.out.drewN _)⟩
          case measure => simp [intOf]; omega
        have hn1 : (f.kind == 1) = false := beq_eq_false_iff_ne.2 h1
        clear h1
        by_cases h2 : f.kind = 2
        · have hb2 : (f.kind == 2) = true := beq_iff_eq.2 h2
          clear h2
          obtain ⟨y, xs1, e1, C1, C2, hl1⟩ := pair_signed (gP := gP) (gR := gR) (N := w.heap.size) (A := B) (n := m) (c := d) HT.out.eq HOK.out.m1 HOK.out.m2
          have HC1 : Hid (∀ wx, Rdr wx gP xs e → Calls Try.prog 17 #[.pointer (some ⟨gP, 0, none⟩), .int .i64 f.most] wx fun r w' => r = .returned (.int .i64 y) ∧ Rdr w' gP xs1 e1 ∧ Only (fun k => k = gP) wx w') := C1
          have HC2 : Hid (∀ wx, Rfr wx gR w.heap.size B m d bs at_ e → Calls Try.prog 18 #[.pointer (some ⟨gR, 0, none⟩), .int .i64 f.most] wx fun r w' => r = .returned (.int .i64 y) ∧ (∃ at1, Rfr w' gR w.heap.size B m d bs at1 e1 ∧ (e1 = 0 → bs.drop at1 = xs1)) ∧ Only (fun k => k = gR) wx w') := C2
          have HL1 := Lib.hid hl1
          clear C1 C2 hl1
          go_wp2_with fail
          generalize wr.alloc (.cells #[.int .i64 f.kind, .int .i64 f.val, .int .i64 f.most, .slice f.A f.n f.c] 38) = wA at m0 HTA ⊢
          have HTD := Lib.hid HTA.out.drew
          have m0' : wA.drew.cell? ⟨fb, 2, none⟩ = some (.int .i64 f.most) := m0
          go_region_held3 (fun wx => wx.cell? ⟨fb, 2, none⟩ = some (.int .i64 f.most)) (first | exact m0 | exact m1 | exact m2) (first
            | (go_at_call 17; refine (HC1.out _ HTD.out.rd).mono ?_; rintro r1 w5 ⟨rfl, hr5, ho5⟩; have m1 := Only.cell_at ho5 m0' nP; have HR5 := Lib.hid hr5; have HO5 := Lib.hid ho5; clear hr5 ho5)
            | (go_at_call 18; refine (HC2.out _ (HTD.out.mid HO5.out)).mono ?_; rintro r2 w6 ⟨rfl, ⟨at1, hf6, hd6⟩, ho6⟩; have m2 := Only.cell_at ho6 m1 nR; have HT6 := Lib.hid (HTD.out.step HR5.out HO5.out hf6 ho6 hd6 HL1.out); clear hf6 hd6 ho6))
          go_wp2_with fail
          have t2 := HT6.out.rf.rf.c2
          have tp := HT6.out.rf.lt
          go_quiet ((go_at_call 23; refine Calls.quiet_of_same (same_flip (errorR gP e1 xs1 _ (HT6.out.drewN _).rd))))
          go_wp2
          go_roundw
          case rel => exact ⟨k + 1, xs1, at1, e1, by omega, by go_num, (HT6.out.drewN _)⟩
          case measure => simp [intOf]; omega
        have hn2 : (f.kind == 2) = false := beq_eq_false_iff_ne.2 h2
        clear h2
        by_cases h3 : f.kind = 3
        · have hb3 : (f.kind == 3) = true := beq_iff_eq.2 h3
          clear h3
          obtain ⟨y, xs1, e1, C1, C2, hl1⟩ := pair_byte (gP := gP) (gR := gR) (N := w.heap.size) (A := B) (n := m) (c := d) HT.out.eq
          have HC1 : Hid (∀ wx, Rdr wx gP xs e → Calls Try.prog 19 #[.pointer (some ⟨gP, 0, none⟩)] wx fun r w' => r = .returned (.int .u8 y) ∧ Rdr w' gP xs1 e1 ∧ Only (fun k => k = gP) wx w') := C1
          have HC2 : Hid (∀ wx, Rfr wx gR w.heap.size B m d bs at_ e → Calls Try.prog 20 #[.pointer (some ⟨gR, 0, none⟩)] wx fun r w' => r = .returned (.int .u8 y) ∧ (∃ at1, Rfr w' gR w.heap.size B m d bs at1 e1 ∧ (e1 = 0 → bs.drop at1 = xs1)) ∧ Only (fun k => k = gR) wx w') := C2
          have HL1 := Lib.hid hl1
          clear C1 C2 hl1
          go_wp2_with fail
          refine (HC1.out _ HTA.out.rd).mono ?_
          rintro r1 w5 ⟨rfl, hr5, ho5⟩
          have HR5 := Lib.hid hr5
          have HO5 := Lib.hid ho5
          clear hr5 ho5
          go_wp2_with fail
          refine (HC2.out _ (HTA.out.mid HO5.out)).mono ?_
          rintro r2 w6 ⟨rfl, ⟨at1, hf6, hd6⟩, ho6⟩
          have HT6 := Lib.hid (HTA.out.step HR5.out HO5.out hf6 ho6 hd6 HL1.out)
          clear hf6 hd6 ho6
          go_wp2_with fail
          have t2 := HT6.out.rf.rf.c2
          have tp := HT6.out.rf.lt
          go_quiet ((go_at_call 23; refine Calls.quiet_of_same (same_flip (errorR gP e1 xs1 _ (HT6.out.drewN _).rd))))
          go_wp2
          go_roundw
          case rel => exact ⟨k + 1, xs1, at1, e1, by omega, by go_num, (HT6.out.drewN _)⟩
          case measure => simp [intOf]; omega
        have hn3 : (f.kind == 3) = false := beq_eq_false_iff_ne.2 h3
        clear h3
        by_cases h4 : f.kind = 4
        · have hb4 : (f.kind == 4) = true := beq_iff_eq.2 h4
          clear h4
          obtain ⟨ys, xs1, e1, C1, C2, hl1, hl2⟩ := pair_bytes (gP := gP) (gR := gR) (N := w.heap.size) (A := B) (n := m) (c := d) HT.out.eq HOK.out.m1 HOK.out.m2 HT.out.len
          have HC1 := Lib.hid C1
          have HC2 := Lib.hid C2
          have HL1 := Lib.hid hl1
          have HYL := Lib.hid (Nat.le_trans hl2 HT.out.len)
          clear C1 C2 hl1 hl2
          go_wp2_with fail
          generalize wr.alloc (.cells #[.int .i64 f.kind, .int .i64 f.val, .int .i64 f.most, .slice f.A f.n f.c] 38) = wA at m0 HTA ⊢
          have HTD := Lib.hid HTA.out.drew
          have m0' : wA.drew.cell? ⟨fb, 2, none⟩ = some (.int .i64 f.most) := m0
          go_region_held3 (fun wx => wx.cell? ⟨fb, 2, none⟩ = some (.int .i64 f.most)) (first | exact m0 | exact m1 | exact m2 | exact m3) (first
            | (go_at_call 21; refine (HC1.out _ HTD.out.rd).mono ?_; rintro r1 w5 ⟨v5, rfl, hv5, hr5, ho5⟩; obtain ⟨A5, c5, rfl, hnn5⟩ := own_nil hv5; have HV5 := Lib.hid hv5; clear hv5 hnn5; have m1 := Only.cell_at ho5 m0' nP; have HR5 := Lib.hid hr5; have HO5 := Lib.hid ho5; clear hr5 ho5)
            | (go_at_call 22; refine (HC2.out _ (HTD.out.mid HO5.out)).mono ?_; rintro r2 w6 ⟨v6, rfl, hv6, ⟨at1, hf6, hd6⟩, ho6⟩; obtain ⟨A6, c6, rfl, hnn6⟩ := own_nil hv6; have HV6 := Lib.hid hv6; have HV56 := Lib.hid (ho6.own HV5.out (fun k hk e => by have := (HV5.out.lt k hk).1; have := HTD.out.rf.lt; omega)); clear hv6 hnn6; have m2 := Only.cell_at ho6 m1 nR; have HT6 := Lib.hid (HTD.out.step HR5.out HO5.out hf6 ho6 hd6 HL1.out); clear hf6 hd6 ho6)
            | (go_at_call 11; refine (same_yes A5 A6 _ c5 c6 _ _ ys _ (by have := HYL.out; omega) (Row.of_own HV56.out) (Row.of_own HV6.out)).mono ?_; rintro r3 w7 ⟨rfl, q, rfl⟩; have m3 := m2))
          go_wp2_with fail
          have HT7 := Lib.hid (HT6.out.drewN q)
          clear HT6 m3
          generalize w6.drewN q = w7 at HT7 ⊢
          have t2 := HT7.out.rf.rf.c2
          have tp := HT7.out.rf.lt
          go_quiet ((go_at_call 23; refine Calls.quiet_of_same (same_flip (errorR gP e1 xs1 _ (HT7.out.drewN _).rd))))
          go_wp2
          go_roundw
          case rel => exact ⟨k + 1, xs1, at1, e1, by omega, by go_num, (HT7.out.drewN _)⟩
          case measure => simp [intOf]; omega
        have hn4 : (f.kind == 4) = false := beq_eq_false_iff_ne.2 h4
        clear h4
        go_wp2_with fail
        have t2 := HTA.out.rf.rf.c2
        have tp := HTA.out.rf.lt
        go_quiet ((go_at_call 23; refine Calls.quiet_of_same (same_flip (errorR gP e xs _ (HTA.out.drewN _).rd))))
        go_wp2
        go_roundw
        case rel => exact ⟨k + 1, xs, at_, e, by omega, by go_num, (HTA.out.drewN _)⟩
        case measure => simp [intOf]; omega
      · go_wp2_with fail
        refine (numberR_nil 5 _).mono ?_
        rintro r1 w5 ⟨rfl, hb5⟩
        have HB5 := Lib.hid hb5
        clear hb5
        go_wp2_with fail
        refine (signedR_nil 5 _).mono ?_
        rintro r2 w6 ⟨rfl, hb6⟩
        have HB6 := Lib.hid (HB5.out.trans (hb6.mono HB5.out.size))
        clear hb6
        go_wp2_with fail
        refine (byteR_nil _).mono ?_
        rintro r3 w7 ⟨rfl, hb7⟩
        have HB7 := Lib.hid (HB6.out.trans (hb7.mono HB6.out.size))
        clear hb7
        go_wp2_with fail
        refine (bytesR_nil 5 _).mono ?_
        rintro r4 w8 ⟨rfl, hb8⟩
        have HT8 := Lib.hid (HT.out.below (HB7.out.trans (hb8.mono HB7.out.size)))
        clear hb8
        go_wp2_with fail
        refine (error_nil _).mono ?_
        rintro r5 w9 ⟨rfl, rfl⟩
        go_wp2_with fail
        refine (doneR_nil _).mono ?_
        rintro r6 w9 ⟨rfl, rfl⟩
        have HDN : Hid (done (bs.drop at_) e = done xs e) := by
          unfold Hid done
          by_cases e0 : e = 0
          · rw [HT.out.eq e0]
          · rw [if_pos e0, if_pos e0]
        go_wp2_with fail
        refine (doneR gP e xs _ HT8.out.rd).mono ?_
        rintro r7 w9 ⟨rfl, rfl⟩
        go_wp2_with fail
        refine (refdone_any gR w.heap.size m d at_ e B bs _ HT8.out.rf).mono ?_
        rw [HDN.out]
        rintro r8 w9 ⟨rfl, hl9⟩
        have HL9 := Lib.hid hl9
        clear hl9
        go_wp2
        go_ret
        have hb := HT8.out.bel
        exact ⟨rfl, (HL9.out.only (Only.of_below (M := fun _ => False) (hb.mono (Nat.le_refl _)))).below (Nat.le_refl _) (fun _ h => h.elim)⟩
end Go.Proofs.Ytbmbibjkjnjbpaa.Fld
