/- FieldBack as a walk: it returns true, whatever fields came in. -/
import Derived.Test.YtbmbibjkjnjbpaaFldN
import Derived.Test.YtbmbibjkjnjbpaaFldQ
import Derived.Test.YtbmbibjkjnjbpaaSame
import Derived.Deep.RegionHeld3
namespace Go.Proofs.Ytbmbibjkjnjbpaa.Fld
open Go.RowKit Var

set_option maxHeartbeats 3200000 in
set_option maxRecDepth 100000 in
theorem back_walk (A : Option Addr) (n c : Nat) (fs : List F) (w : World) (h : FRow w w.heap.size A n fs) (hn : n ≤ maxLen) :
    Calls Try.prog 5 #[.slice A n c] w fun e w' => e = .returned (.bool true) ∧ Below w.heap.size w w' := by
  have H := Lib.hid h
  have HN := Lib.hid hn
  clear h hn
  go_enter Try.func5, Try.ntmps5
  go_wp2_with fail
  refine (awake_any _).mono ?_
  rintro e1 w1 ⟨rfl, hb1⟩
  have H1 := Lib.hid (H.out.below hb1)
  have HB1 := Lib.hid hb1
  clear hb1
  go_wp2_with fail
  refine (small_any A n c fs _ (H1.out.more HB1.out.size) HN.out).mono ?_
  rintro e2 w2 ⟨rfl, hb2⟩
  have HB2 := Lib.hid (HB1.out.trans (hb2.mono HB1.out.size))
  have H2 := Lib.hid (H1.out.below (hb2.mono HB1.out.size))
  clear hb2
  cases hsm : smallF fs with
  | false =>
    go_wp2
    go_ret
    exact ⟨rfl, HB2.out⟩
  | true =>
    have HSM := Lib.hid hsm
    have hn50 : n ≤ 50 := by rw [← H.out.1]; exact (small_len hsm).2
    clear hsm
    go_wp2_with fail
    refine (written_any A n c fs _ (H2.out.more HB2.out.size) HSM.out).mono ?_
    rintro e3 w3 ⟨v1, v2, rfl, ho1, ho2, hb3⟩
    obtain ⟨A1, c1, rfl, hn1⟩ := own_nil ho1
    have HL := Lib.hid (enc_small_drop H.out HSM.out 0)
    have HL0 : Hid (n = 0 → (enc fs).length = 0) := by
      intro h0
      have : fs = [] := List.eq_nil_of_length_eq_zero (by rw [H.out.1]; exact h0)
      rw [this]
      rfl
    have HO1 := Lib.hid (Row.of_own ho1)
    have HB3 := Lib.hid (HB2.out.trans (hb3.mono HB2.out.size))
    have HN1 := Lib.hid hn1
    clear ho1 ho2 hb3 hn1
    obtain ⟨L, hLL⟩ : ∃ L, (enc fs).length = L := ⟨_, rfl⟩
    rw [List.drop_zero, hLL] at HL
    rw [hLL] at HL0 HO1 ⊢
    clear hLL
    go_wp2_with fail
    refine (readR A1 L c1 _ (enc fs) w3 HO1.out (Nat.le_refl _) HN1.out (by have := HL.out; omega) (enc_byte H.out)).mono ?_
    rintro e4 w4 ⟨g, rfl, hg, hrd4, hb4⟩
    have HW4 : Hid (Way w w4 g (enc (fs.drop 0))) := ⟨hrd4, Nat.le_trans HB3.out.size hg, HB3.out.trans (hb4.mono HB3.out.size)⟩
    clear hrd4 hb4 hg
    go_wp2
    go_loopw [22] (fun i wr => ∃ (k : Nat), k ≤ n ∧ i = .int .i64 (k : Int) ∧ Hid (Way w wr g (enc (fs.drop k)))) (fun i _ => n - (intOf i).toNat)
    case atStart => exact ⟨0, Nat.zero_le _, rfl, HW4.out⟩
    case round =>
      obtain ⟨k, hk, rfl, HT⟩ := hrel
      by_cases hlt : k < n
      · obtain ⟨b, o, f, rfl, hbl, hf, hok, c0, c1', c2, c3⟩ := (H.out.below HT.out.bel).at hlt
        have HOK := Lib.hid hok
        have HFN := Lib.hid ((small_len HSM.out).1 f (List.mem_of_getElem? hf))
        have HE := Lib.hid (enc_drop hf)
        have HEL := Lib.hid (enc_small_drop H.out HSM.out (k + 1))
        obtain ⟨rest, hrest⟩ : ∃ rest, enc (fs.drop (k + 1)) = rest := ⟨_, rfl⟩
        rw [hrest] at HE HEL
        have HREST := Lib.hid hrest
        clear hrest
        have hfg := HT.out.rd.lt
        obtain ⟨fb, hfb⟩ : ∃ fb, wr.heap.size = fb := ⟨_, rfl⟩
        have m1 : (wr.alloc (.cells #[.int .i64 f.kind, .int .i64 f.val, .int .i64 f.most, .slice f.A f.n f.c] 38)).cell? ⟨wr.heap.size, 1, none⟩ = some (.int .i64 f.val) := cell_of_blk (heap_alloc_new _ _) rfl
        have m3 : (wr.alloc (.cells #[.int .i64 f.kind, .int .i64 f.val, .int .i64 f.most, .slice f.A f.n f.c] 38)).cell? ⟨wr.heap.size, 3, none⟩ = some (.slice f.A f.n f.c) := cell_of_blk (heap_alloc_new _ _) rfl
        have HTA := Lib.hid (HT.out.below ((Below.refl _ _).alloc (Nat.le_refl _) (.cells #[.int .i64 f.kind, .int .i64 f.val, .int .i64 f.most, .slice f.A f.n f.c] 38)))
        rw [HE.out] at HTA
        rw [hfb] at m1 m3 hfg
        have nP : ¬ fb = g := by omega
        clear hok hf
        by_cases h1 : f.kind = 1
        · have hb1 : (f.kind == 1) = true := beq_iff_eq.2 h1
          have HE1 : Hid (f.enc = num f.val) := by unfold Hid F.enc; rw [if_pos h1]
          clear h1
          by_cases q1 : f.val < 0
          · go_wp2
            go_ret
            exact ⟨rfl, HTA.out.bel⟩
          by_cases q2 : 4611686018427387904 < f.val
          · go_wp2
            go_ret
            exact ⟨rfl, HTA.out.bel⟩
          rw [HE1.out] at HTA
          go_wp2_with fail
          generalize wr.alloc (.cells #[.int .i64 f.kind, .int .i64 f.val, .int .i64 f.most, .slice f.A f.n f.c] 38) = wA at m1 m3 HTA ⊢
          have HTD := Lib.hid HTA.out.drew
          have m1' : wA.drew.cell? ⟨fb, 1, none⟩ = some (.int .i64 f.val) := m1
          go_region_held3 (fun wx => wx.cell? ⟨fb, 1, none⟩ = some (.int .i64 f.val)) (first | exact m1 | exact m5) (
            (go_at_call 15; refine (number_put g rest _ HTD.out.rd (by omega) (by omega)).mono ?_; rintro r1 w5 ⟨rfl, hr5, ho5⟩; have m5 := Only.cell_at ho5 m1' nP; have HW5 := Lib.hid (HTD.out.step hr5 ho5); clear hr5 ho5))
          go_wp2
          go_roundw
          case rel => exact ⟨k + 1, by omega, by go_num, by rw [HREST.out]; exact HW5.out⟩
          case measure => simp [intOf]; omega
        have hn1 : (f.kind == 1) = false := beq_eq_false_iff_ne.2 h1
        by_cases h2 : f.kind = 2
        · have hb2 : (f.kind == 2) = true := beq_iff_eq.2 h2
          have HE1 : Hid (f.enc = sgn f.val) := by unfold Hid F.enc; rw [if_neg h1, if_pos h2]
          clear h2
          by_cases q1 : f.val < -4611686018427387904
          · go_wp2
            go_ret
            exact ⟨rfl, HTA.out.bel⟩
          by_cases q2 : 4611686018427387904 < f.val
          · go_wp2
            go_ret
            exact ⟨rfl, HTA.out.bel⟩
          rw [HE1.out] at HTA
          have hneg : IntKind.i64.wrap (-f.val) = -f.val := IntWalk.i64_in _ (by omega)
          by_cases hq : f.val < -f.val
          · go_wp2_with fail
            generalize wr.alloc (.cells #[.int .i64 f.kind, .int .i64 f.val, .int .i64 f.most, .slice f.A f.n f.c] 38) = wA at m1 m3 HTA ⊢
            have HTD := Lib.hid HTA.out.drew
            have m1' : wA.drew.cell? ⟨fb, 1, none⟩ = some (.int .i64 f.val) := m1
            go_region_held3 (fun wx => wx.cell? ⟨fb, 1, none⟩ = some (.int .i64 f.val)) (first | exact m1 | exact m5) (
              (go_at_call 17; refine (signed_neg g rest _ HTD.out.rd (by omega) (by omega) (by omega)).mono ?_; rintro r1 w5 ⟨rfl, hr5, ho5⟩; have m5 := Only.cell_at ho5 m1' nP; have HW5 := Lib.hid (HTD.out.step hr5 ho5); clear hr5 ho5))
            go_wp2
            go_roundw
            case rel => exact ⟨k + 1, by omega, by go_num, by rw [HREST.out]; exact HW5.out⟩
            case measure => simp [intOf]; omega
          · have hqe : (if f.val < -f.val then -f.val else f.val) = f.val := if_neg hq
            go_wp2_with fail
            generalize wr.alloc (.cells #[.int .i64 f.kind, .int .i64 f.val, .int .i64 f.most, .slice f.A f.n f.c] 38) = wA at m1 m3 HTA ⊢
            have HTD := Lib.hid HTA.out.drew
            have m1' : wA.drew.cell? ⟨fb, 1, none⟩ = some (.int .i64 f.val) := m1
            go_region_held3 (fun wx => wx.cell? ⟨fb, 1, none⟩ = some (.int .i64 f.val)) (first | exact m1 | exact m5) (
              (go_at_call 17; refine (signed_pos g rest _ HTD.out.rd (by omega) (by omega) (by omega)).mono ?_; rintro r1 w5 ⟨rfl, hr5, ho5⟩; have m5 := Only.cell_at ho5 m1' nP; have HW5 := Lib.hid (HTD.out.step hr5 ho5); clear hr5 ho5))
            go_wp2
            go_roundw
            case rel => exact ⟨k + 1, by omega, by go_num, by rw [HREST.out]; exact HW5.out⟩
            case measure => simp [intOf]; omega
        have hn2 : (f.kind == 2) = false := beq_eq_false_iff_ne.2 h2
        by_cases h3 : f.kind = 3
        · have hb3 : (f.kind == 3) = true := beq_iff_eq.2 h3
          obtain ⟨y, hy⟩ : ∃ y, IntKind.u8.wrap f.val = y := ⟨_, rfl⟩
          have HE1 : Hid (f.enc = [y]) := by unfold Hid F.enc; rw [if_neg h1, if_neg h2, if_pos h3, hy]
          clear h3
          rw [HE1.out] at HTA
          go_wp2_with fail
          generalize wr.alloc (.cells #[.int .i64 f.kind, .int .i64 f.val, .int .i64 f.most, .slice f.A f.n f.c] 38) = wA at m1 m3 HTA ⊢
          have HTD := Lib.hid HTA.out.drew
          have m1' : wA.drew.cell? ⟨fb, 1, none⟩ = some (.int .i64 f.val) := m1
          go_region_held3 (fun wx => wx.cell? ⟨fb, 1, none⟩ = some (.int .i64 f.val)) (first | exact m1 | exact m5) (
            (go_at_call 19; refine (byte_put g rest _ HTD.out.rd).mono ?_; rintro r1 w5 ⟨rfl, hr5, ho5⟩; have m5 := Only.cell_at ho5 m1' nP; have HW5 := Lib.hid (HTD.out.step hr5 ho5); clear hr5 ho5))
          go_wp2
          go_roundw
          case rel => exact ⟨k + 1, by omega, by go_num, by rw [HREST.out]; exact HW5.out⟩
          case measure => simp [intOf]; omega
        have hn3 : (f.kind == 3) = false := beq_eq_false_iff_ne.2 h3
        by_cases h4 : f.kind = 4
        · have hb4 : (f.kind == 4) = true := beq_iff_eq.2 h4
          have HE1 : Hid (f.enc = num f.n ++ f.bs) := by unfold Hid F.enc; rw [if_neg h1, if_neg h2, if_neg h3, if_pos h4]
          clear h4
          rw [HE1.out] at HTA
          have HRA := Lib.hid (HOK.out.row.alloc HT.out.bel.size (.cells #[.int .i64 f.kind, .int .i64 f.val, .int .i64 f.most, .slice f.A f.n f.c] 38))
          have HGL := Lib.hid HT.out.low
          go_wp2_with fail
          generalize wr.alloc (.cells #[.int .i64 f.kind, .int .i64 f.val, .int .i64 f.most, .slice f.A f.n f.c] 38) = wA at m1 m3 HTA HRA ⊢
          have HTD := Lib.hid HTA.out.drew
          have m3' : wA.drew.cell? ⟨fb, 3, none⟩ = some (.slice f.A f.n f.c) := m3
          go_region_held3 (fun wx => wx.cell? ⟨fb, 3, none⟩ = some (.slice f.A f.n f.c)) (first | exact m3 | exact m5 | exact m6) (first
            | (go_at_call 21; refine (bytes_put g rest _ HTD.out.rd HOK.out.row.len (by rw [HOK.out.row.len]; exact HFN.out) HEL.out).mono ?_; rintro r1 w5 ⟨v5, rfl, hv5, hr5, ho5⟩; obtain ⟨A5, c5, rfl, hnn5⟩ := own_nil hv5; have HV5 := Lib.hid (Row.of_own hv5); have HR5 := Lib.hid (ho5.row HRA.out (by have := HTD.out.bel.size; exact this) (fun b o _ hb e => by have := HGL.out; omega)); have m5 := Only.cell_at ho5 m3' nP; have HW5 := Lib.hid (HTD.out.step hr5 ho5); clear hr5 ho5 hv5 hnn5)
            | (go_at_call 11; refine (same_yes A5 f.A f.n c5 f.c _ _ f.bs _ (by have := HFN.out; omega) HV5.out HR5.out).mono ?_; rintro r2 w6 ⟨rfl, q, rfl⟩; have m6 := m5))
          go_wp2
          go_roundw
          case rel => exact ⟨k + 1, by omega, by go_num, by rw [HREST.out]; exact HW5.out.drewN _⟩
          case measure => simp [intOf]; omega
        have hn4 : (f.kind == 4) = false := beq_eq_false_iff_ne.2 h4
        have HE1 : Hid (f.enc = []) := by unfold Hid F.enc; rw [if_neg h1, if_neg h2, if_neg h3, if_neg h4]
        clear h1 h2 h3 h4
        rw [HE1.out, List.nil_append] at HTA
        go_wp2
        go_roundw
        case rel => exact ⟨k + 1, by omega, by go_num, by rw [HREST.out]; exact HTA.out⟩
        case measure => simp [intOf]; omega
      · have HZ : Hid (fs.drop k = []) := by unfold Hid; exact List.drop_eq_nil_of_le (by rw [H.out.1]; omega)
        rw [HZ.out] at HT
        go_wp2_with fail
        refine (doneR g 0 (enc []) _ HT.out.rd).mono ?_
        rintro r7 w9 ⟨rfl, rfl⟩
        have hdn : done (enc []) 0 = 0 := rfl
        rw [hdn]
        clear hdn
        go_wp2_with fail
        refine (errorR g 0 (enc []) _ HT.out.rd).mono ?_
        rintro r8 w9 ⟨rfl, rfl⟩
        by_cases hz : 0 < n
        · have hd : decide ((0 : Int) < (n : Int)) = true := decide_eq_true (by omega)
          go_wp2
          go_ret
          exact ⟨rfl, HT.out.bel⟩
        · have hd : decide ((0 : Int) < (n : Int)) = false := decide_eq_false (by omega)
          obtain rfl : L = 0 := HL0.out (by omega)
          go_wp2
          go_ret
          exact ⟨rfl, HT.out.bel⟩
end Go.Proofs.Ytbmbibjkjnjbpaa.Fld
