/- Lemmas that the proof stands on, in build order: PtR. -/
import Derived.BigRegion
import Derived.Deep.DeepCutAuto
import Derived.Test.YtdhlbcbgbmgcjaaJ12ec2814
/- Layer 17 (path): the reference's From, as a contract. -/
namespace Go.Proofs.Ytdhlbcbgbmgcjaa.Pt
open Go.RowKit Rec Ints Ge Gf Pa

set_option maxHeartbeats 8000000 in
set_option maxRecDepth 100000 in
theorem reffrom_any (N : Nt) (A A' : Option Addr) (n c m c' s : Nat) (w : World) (h : NAt w w.heap.size N A n c A' m c') (hc : check N = 0) (hs : s < n) :
    Calls Try.prog 13 #[.agg #[.int .i64 N.ver, .slice A n c, .slice A' m c'], .int .i64 (s : Int)] w fun e w' => ∃ v, e = .returned v ∧ InTo w.heap.size w (farL N s) v w' := by
  obtain ⟨i0, hi, hz0, hz1, hz2⟩ := info_of info_int
  have mixed : Try.prog.follows .mixedOrders = true := by kernel_rfl
  have hv := valid_of hc
  have HB := Lib.hid (Bx.start h)
  have hls : N.st.length = n := h.st.len
  have hll : N.lk.length = m := h.lk.len
  have hn9 := hv.ns
  have hm9 := hv.nl
  rw [hls] at hn9
  rw [hll] at hm9
  have HLA : Hid (∀ l ∈ N.lk, 0 ≤ l.1 ∧ l.1 < l.2.1 ∧ l.2.1 < (n : Int) ∧ 1 ≤ l.2.2 ∧ l.2.2 < 1048576) := fun l hl => by have := link_at hv hl; rw [hls] at this; omega
  have HLS := Lib.hid hls
  have HLL := Lib.hid hll
  have HSA : Hid ((w.alloc (.cells #[.int .i64 N.ver, .slice A n c, .slice A' m c'] 25)).heap.size = w.heap.size + 1) := by unfold Hid; simp
  clear h hc hv hls hll
  go_enter Try.func13, Try.ntmps13
  go_wp2
  generalize w.alloc (.cells #[.int .i64 N.ver, .slice A n c, .slice A' m c'] 25) = wA at *
  go_loopw [5, 6] (fun v i wr => ∃ k : Nat, k ≤ n ∧ i = .int .i64 (k : Int) ∧ Hid (wr.ownsRow (w.heap.size + 1) 3 1 v k (intS.flat (List.replicate k (-1)))) ∧ Hid (Bx w N A n c A' m c' wr)) (fun _ i _ => n - (intOf i).toNat)
  case atStart => exact ⟨0, Nat.zero_le _, rfl, World.ownsRow_nil _ _ _ _, HB⟩
  case round =>
    clear HB HSA
    obtain ⟨k, hk, rfl, HO, HB⟩ := hrel
    have z1 : wr.cell? ⟨w.heap.size, 1, none⟩ = some (.slice A n c) := cell_of_blk HB.out.blk rfl
    by_cases hlt : k < n
    · have hbs := HB.out.lt
      have e1 : decide ((k : Int) < (n : Int)) = true := decide_eq_true (by omega)
      obtain ⟨Av, cv, rfl, -⟩ := ownr_slice HO.out
      have HDO := Lib.hid (ownr_alloc HO.out (.cells #[.int .i64 (-1)] 3))
      have HNEW := Lib.hid (new_int wr (-1) 3)
      have HBA := Lib.hid (HB.out.below ((Below.refl wr.heap.size wr).alloc (Nat.le_refl _) (.cells #[.int .i64 (-1)] 3)))
      have HNN : Hid (List.replicate (k + 1) (-1 : Int) = List.replicate k (-1) ++ [-1]) := by unfold Hid; rw [List.replicate_succ']
      have hwk : IntKind.i64.wrap ((k : Int) + 1) = (k : Int) + 1 := IntWalk.i64_in _ ⟨by omega, by omega⟩
      go_wp2_with (at_builtin; go_loud (refine push_rec intS rfl (.tmp 17) (.tmp 18) 27 rfl (w.heap.size + 1) 3 i0 (.int .i64 0) 8 Try.underlying27 hi hz0 rfl hz1 hz2 _ k (List.replicate k (-1)) rfl HDO.out ⟨wr.heap.size, 0, none⟩ (-1) rfl HNEW.out (by omega) (by omega) (by simp; omega) ?_); intro v2 w2 hown2 _ hb2; have HO2 := Lib.hid hown2; have HB2 := Lib.hid (HBA.out.belowP hb2); clear hown2 hb2)
      go_wp2
      go_roundw
      case rel => exact ⟨k + 1, by omega, by go_num, by unfold Hid; rw [HNN.out]; exact HO2.out, HB2⟩
      case measure => simp [intOf]; omega
    obtain rfl : k = n := by omega
    have e1 : decide ((k : Int) < (k : Int)) = false := decide_eq_false (by omega)
    obtain ⟨g, cap, rfl⟩ : ∃ g cap, u5 = .slice (some ⟨g, 0, none⟩) k cap := by
      rcases HO.out.2 with ⟨rfl, h0⟩ | ⟨g, cap, cur, rfl, -⟩
      · omega
      · exact ⟨g, cap, rfl⟩
    have hp0 : Pz w N A k c A' m c' g cap (List.replicate k (-1)) wr := ⟨HB.out, HO.out, List.length_replicate⟩
    have HP0 := Lib.hid (hp0.set s 0)
    have HF0 : Hid (rdZ ((List.replicate k (-1)).set s 0) = turns (nlk N.lk) 0 (Pa.start s)) := start_rd hs
    have HR0 : Hid (Rng 0 ((List.replicate k (-1)).set s 0)) := start_rng hs
    have gs0 := hp0.cell hs
    have fs0 := hp0.free s
    have a1 : (0 : Int) ≤ (s : Int) := by omega
    have a2 : (s : Int) < (k : Int) := by omega
    clear HO HB hlt hp0
    go_wp2
    go_loopw [7] (fun i wr => ∃ (t : Nat) (xs : List Int), t ≤ k ∧ i = .int .i64 (t : Int) ∧ Hid (rdZ xs = turns (nlk N.lk) t (Pa.start s)) ∧ Hid (Rng ((t : Int) * 68719476736) xs) ∧ Hid (Pz w N A k c A' m c' g cap xs wr)) (fun i _ => k - (intOf i).toNat)
    case atStart => exact ⟨0, _, Nat.zero_le _, rfl, HF0, by unfold Hid; simpa using HR0.out, HP0⟩
    case round =>
      clear HF0 HP0 HR0 gs0 fs0 z1
      obtain ⟨t, xs, ht, rfl, HF, HR, HP⟩ := hrel
      have z1 : wr.cell? ⟨w.heap.size, 1, none⟩ = some (.slice A k c) := cell_of_blk HP.out.bx.blk rfl
      by_cases hlt : t < k
      · have e2 : decide ((t : Int) < (k : Int)) = true := decide_eq_true (by omega)
        have HF0 : Hid (rdZ xs = ((nlk N.lk).take 0).foldl lk (turns (nlk N.lk) t (Pa.start s))) := HF.out
        have HR0 : Hid (Rng ((t : Int) * 68719476736 + ((0 : Nat) : Int) * 2097152) xs) := by unfold Hid; simpa using HR.out
        have hwt : IntKind.i64.wrap ((t : Int) + 1) = (t : Int) + 1 := IntWalk.i64_in _ ⟨by omega, by omega⟩
        go_wp2
        clear z1
        go_loopw [8] (fun i wr => ∃ (j : Nat) (xs : List Int), j ≤ m ∧ i = .int .i64 (j : Int) ∧ Hid (rdZ xs = ((nlk N.lk).take j).foldl lk (turns (nlk N.lk) t (Pa.start s))) ∧ Hid (Rng ((t : Int) * 68719476736 + (j : Int) * 2097152) xs) ∧ Hid (Pz w N A k c A' m c' g cap xs wr)) (fun i _ => m - (intOf i).toNat)
        case atStart => exact ⟨0, xs, Nat.zero_le _, rfl, HF0, HR0, HP⟩
        case round =>
          clear HF0 HP HF HR HR0
          clear xs
          obtain ⟨j, xs1, hj, rfl, HF, HR1, HP⟩ := hrel
          have z2 : wr.cell? ⟨w.heap.size, 2, none⟩ = some (.slice A' m c') := cell_of_blk HP.out.bx.blk rfl
          by_cases hlj : j < m
          · have e3 : decide ((j : Int) < (m : Int)) = true := decide_eq_true (by omega)
            have hwj : IntKind.i64.wrap ((j : Int) + 1) = (j : Int) + 1 := IntWalk.i64_in _ ⟨by omega, by omega⟩
            obtain ⟨bb, o, p, rfl, hbb, hp, c0, c1, c2⟩ := lk_at HP.out.bx.at_.lk hlj
            have hla := HLA.out _ (List.mem_of_getElem? hp)
            have hfm := fold_moreP hp (turns (nlk N.lk) t (Pa.start s))
            obtain ⟨la, lb, lw⟩ := p
            simp only at c0 c1 c2 hla hfm
            obtain ⟨a, rfl⟩ : ∃ a : Nat, la = (a : Int) := ⟨la.toNat, by omega⟩
            obtain ⟨b, rfl⟩ : ∃ b : Nat, lb = (b : Int) := ⟨lb.toNat, by omega⟩
            obtain ⟨ww, rfl⟩ : ∃ ww : Nat, lw = (ww : Int) := ⟨lw.toNat, by omega⟩
            rw [Int.toNat_natCast, Int.toNat_natCast, Int.toNat_natCast] at hfm
            obtain ⟨D1, hD1⟩ : ∃ D1, ((nlk N.lk).take j).foldl lk (turns (nlk N.lk) t (Pa.start s)) = D1 := ⟨_, rfl⟩
            rw [hD1] at hfm HF
            obtain ⟨D2, hD2⟩ : ∃ D2, rl D1 a b ww = D2 := ⟨_, rfl⟩
            have hfm' : ((nlk N.lk).take (j + 1)).foldl lk (turns (nlk N.lk) t (Pa.start s)) = rl D2 b a ww := by rw [hfm, ← hD2]; rfl
            have HFM := Lib.hid hfm'
            have HE1 : Hid (D1 = rdZ xs1) := HF.out.symm
            have HD2 := Lib.hid hD2
            have HPA := Lib.hid (HP.out.keep ((Below.refl wr.heap.size wr).alloc (Nat.le_refl _) (.cells #[.int .i64 (a : Int), .int .i64 (b : Int), .int .i64 (ww : Int)] 45)))
            have HKA := Lib.hid (heap_alloc_new wr (.cells #[.int .i64 (a : Int), .int .i64 (b : Int), .int .i64 (ww : Int)] 45))
            have hglt := HP.out.lt
            have hak : a < k := by omega
            have hbk : b < k := by omega
            have hww : (ww : Int) < 1048576 := by omega
            obtain ⟨V1, hV1⟩ : ∃ V1 : Int, (t : Int) * 68719476736 + (j : Int) * 2097152 = V1 := ⟨_, rfl⟩
            obtain ⟨V2, hV2⟩ : ∃ V2 : Int, V1 + 1048576 = V2 := ⟨_, rfl⟩
            obtain ⟨V3, hV3⟩ : ∃ V3 : Int, V2 + 1048576 = V3 := ⟨_, rfl⟩
            have hV0 : 0 ≤ V1 ∧ V1 ≤ 4611686018427387904 := by omega
            rw [hV1] at HR1
            clear hp hfm hfm' HP HF hla hD1 hD2
            go_upto_region 14 with fail
            obtain ⟨gl, hgl⟩ : ∃ gl, wr.heap.size = gl := ⟨_, rfl⟩
            rw [hgl] at HKA hglt ⊢
            have HP1 := HPA
            have HK1 := HKA
            clear HPA HKA
            generalize wr.alloc (.cells #[.int .i64 (a : Int), .int .i64 (b : Int), .int .i64 (ww : Int)] 45) = w1 at *
            clear hgl c0 c1 c2 z2
            have a1' : (0 : Int) ≤ (a : Int) := by omega
            have a2' : (a : Int) < (k : Int) := by omega
            have b1' : (0 : Int) ≤ (b : Int) := by omega
            have b2' : (b : Int) < (k : Int) := by omega
            obtain ⟨xu, hxu⟩ : ∃ xu, xs1.getD a (-1) = xu := ⟨_, rfl⟩
            obtain ⟨xv, hxv⟩ : ∃ xv, xs1.getD b (-1) = xv := ⟨_, rfl⟩
            have bu := HR1.out a
            have bv := HR1.out b
            rw [hxu] at bu
            rw [hxv] at bv
            have hxl := HP1.out.len
            have hvx : b < xs1.length := by omega

            go_cut [71] (fun vv wx => vv = .bool (decide (0 ≤ xu ∧ (xv < 0 ∨ xu + (ww : Int) < xv))) ∧ Hid (Pz w N A k c (some ⟨bb, o, none⟩) m c' g cap xs1 wx) ∧ Hid (wx.heap[gl]? = some (.cells #[.int .i64 (a : Int), .int .i64 (b : Int), .int .i64 (ww : Int)] 45 (0, 0))))
            case first =>
              have l0 : w1.cell? ⟨gl, 0, none⟩ = some (.int .i64 (a : Int)) := cell_of_blk HK1.out rfl
              have l1 : w1.cell? ⟨gl, 1, none⟩ = some (.int .i64 (b : Int)) := cell_of_blk HK1.out rfl
              have l2 : w1.cell? ⟨gl, 2, none⟩ = some (.int .i64 (ww : Int)) := cell_of_blk HK1.out rfl
              have gu := HP1.out.cell hak
              have gv := HP1.out.cell hbk
              rw [hxu] at gu
              rw [hxv] at gv
              by_cases h0 : 0 ≤ xu
              · have d0 : decide (0 ≤ xu) = true := decide_eq_true h0
                have mw : IntKind.i64.wrap (xu + (ww : Int)) = xu + (ww : Int) := IntWalk.i64_in _ (by constructor <;> omega)
                by_cases h1 : xv < 0
                · have d1 : decide (xv < 0) = true := decide_eq_true h1
                  go_quiet (fail)
                  go_wp2
                  go_meet
                  exact ⟨congrArg Value.bool (decide_eq_true (p := 0 ≤ xu ∧ (xv < 0 ∨ xu + (ww : Int) < xv)) (by omega)).symm, HP1.out.keep (below_drewN (Below.refl _ _) _), HK1.out⟩
                · have d1 : decide (xv < 0) = false := decide_eq_false h1
                  by_cases h2 : xu + (ww : Int) < xv
                  · have d2 : decide (xu + (ww : Int) < xv) = true := decide_eq_true h2
                    go_quiet (fail)
                    go_wp2
                    go_meet
                    exact ⟨congrArg Value.bool (decide_eq_true (p := 0 ≤ xu ∧ (xv < 0 ∨ xu + (ww : Int) < xv)) (by omega)).symm, HP1.out.keep (below_drewN (Below.refl _ _) _), HK1.out⟩
                  · have d2 : decide (xu + (ww : Int) < xv) = false := decide_eq_false h2
                    go_quiet (fail)
                    go_wp2
                    go_meet
                    exact ⟨congrArg Value.bool (decide_eq_false (p := 0 ≤ xu ∧ (xv < 0 ∨ xu + (ww : Int) < xv)) (by omega)).symm, HP1.out.keep (below_drewN (Below.refl _ _) _), HK1.out⟩
              · have d0 : decide (0 ≤ xu) = false := decide_eq_false h0
                go_quiet (fail)
                go_wp2
                go_meet
                exact ⟨congrArg Value.bool (decide_eq_false (p := 0 ≤ xu ∧ (xv < 0 ∨ xu + (ww : Int) < xv)) (by omega)).symm, HP1.out.keep (below_drewN (Below.refl _ _) _), HK1.out⟩
            case rest =>
              obtain ⟨rfl, HPc, HKc⟩ := hcut
              clear HP1 HK1
              by_cases hcond : 0 ≤ xu ∧ (xv < 0 ∨ xu + (ww : Int) < xv)
              · rw [decide_eq_true hcond]
                have mw : IntKind.i64.wrap (xu + (ww : Int)) = xu + (ww : Int) := IntWalk.i64_in _ (by constructor <;> omega)
                have l0 : wc.cell? ⟨gl, 0, none⟩ = some (.int .i64 (a : Int)) := cell_of_blk HKc.out rfl
                have l1 : wc.cell? ⟨gl, 1, none⟩ = some (.int .i64 (b : Int)) := cell_of_blk HKc.out rfl
                have l2 : wc.cell? ⟨gl, 2, none⟩ = some (.int .i64 (ww : Int)) := cell_of_blk HKc.out rfl
                have gu := HPc.out.cell hak
                have gv := HPc.out.cell hbk
                rw [hxu] at gu
                rw [hxv] at gv
                have fv := HPc.out.free b
                have HE2 : Hid (rl D1 a b ww = rdZ (xs1.set b (xu + (ww : Int)))) := by unfold Hid; rw [HE1.out, rl_some (by rw [hxu]; exact hcond.1) hvx (by rw [hxu, hxv]; exact hcond.2), hxu]
                go_wp2
                go_region
                have HP2 := Lib.hid ((HPc.out.set b (xu + (ww : Int))).keep (Below.refl _ _).drew)
                have HK2 : Hid ((wc.setCell ⟨g, b, none⟩ (.int .i64 (xu + (ww : Int)))).drew.heap[gl]? = some (.cells #[.int .i64 (a : Int), .int .i64 (b : Int), .int .i64 (ww : Int)] 45 (0, 0))) := (Only.setCell wc ⟨g, b, none⟩ (.int .i64 (xu + (ww : Int)))).at HKc.out (show ¬ gl = g by omega)
                have HR2 := Lib.hid (HR1.out.set (V' := V2) hvx (y := xu + (ww : Int)) (by constructor <;> omega) (by omega))
                generalize (wc.setCell ⟨g, b, none⟩ (.int .i64 (xu + (ww : Int)))).drew = w2 at *
                obtain ⟨xs2, hxs2⟩ : ∃ x, xs1.set b (xu + (ww : Int)) = x := ⟨_, rfl⟩
                rw [hxs2] at HP2 HR2 HE2
                clear l0 l1 l2 gu gv fv bu bv HR1 HPc HKc hxu hxv hxl hvx hxs2 HE1 hcond mw
                have HE2' : Hid (D2 = rdZ xs2) := by unfold Hid; rw [← HD2.out]; exact HE2.out
                clear HE2
                have HE2 := HE2'
                clear HE2'
                obtain ⟨xu, hxu⟩ : ∃ xu, xs2.getD b (-1) = xu := ⟨_, rfl⟩
                obtain ⟨xv, hxv⟩ : ∃ xv, xs2.getD a (-1) = xv := ⟨_, rfl⟩
                have bu := HR2.out b
                have bv := HR2.out a
                rw [hxu] at bu
                rw [hxv] at bv
                have hxl := HP2.out.len
                have hvx : a < xs2.length := by omega
                go_upto_region 16 with fail
                go_cut [113] (fun vv wx => vv = .bool (decide (0 ≤ xu ∧ (xv < 0 ∨ xu + (ww : Int) < xv))) ∧ Hid (Pz w N A k c (some ⟨bb, o, none⟩) m c' g cap xs2 wx) ∧ Hid (wx.heap[gl]? = some (.cells #[.int .i64 (a : Int), .int .i64 (b : Int), .int .i64 (ww : Int)] 45 (0, 0))))
                case first =>
                  have l0 : w2.cell? ⟨gl, 0, none⟩ = some (.int .i64 (a : Int)) := cell_of_blk HK2.out rfl
                  have l1 : w2.cell? ⟨gl, 1, none⟩ = some (.int .i64 (b : Int)) := cell_of_blk HK2.out rfl
                  have l2 : w2.cell? ⟨gl, 2, none⟩ = some (.int .i64 (ww : Int)) := cell_of_blk HK2.out rfl
                  have gu := HP2.out.cell hbk
                  have gv := HP2.out.cell hak
                  rw [hxu] at gu
                  rw [hxv] at gv
                  by_cases h0 : 0 ≤ xu
                  · have d0 : decide (0 ≤ xu) = true := decide_eq_true h0
                    have mw : IntKind.i64.wrap (xu + (ww : Int)) = xu + (ww : Int) := IntWalk.i64_in _ (by constructor <;> omega)
                    by_cases h1 : xv < 0
                    · have d1 : decide (xv < 0) = true := decide_eq_true h1
                      go_quiet (fail)
                      go_wp2
                      go_meet
                      exact ⟨congrArg Value.bool (decide_eq_true (p := 0 ≤ xu ∧ (xv < 0 ∨ xu + (ww : Int) < xv)) (by omega)).symm, HP2.out.keep (below_drewN (Below.refl _ _) _), HK2.out⟩
                    · have d1 : decide (xv < 0) = false := decide_eq_false h1
                      by_cases h2 : xu + (ww : Int) < xv
                      · have d2 : decide (xu + (ww : Int) < xv) = true := decide_eq_true h2
                        go_quiet (fail)
                        go_wp2
                        go_meet
                        exact ⟨congrArg Value.bool (decide_eq_true (p := 0 ≤ xu ∧ (xv < 0 ∨ xu + (ww : Int) < xv)) (by omega)).symm, HP2.out.keep (below_drewN (Below.refl _ _) _), HK2.out⟩
                      · have d2 : decide (xu + (ww : Int) < xv) = false := decide_eq_false h2
                        go_quiet (fail)
                        go_wp2
                        go_meet
                        exact ⟨congrArg Value.bool (decide_eq_false (p := 0 ≤ xu ∧ (xv < 0 ∨ xu + (ww : Int) < xv)) (by omega)).symm, HP2.out.keep (below_drewN (Below.refl _ _) _), HK2.out⟩
                  · have d0 : decide (0 ≤ xu) = false := decide_eq_false h0
                    go_quiet (fail)
                    go_wp2
                    go_meet
                    exact ⟨congrArg Value.bool (decide_eq_false (p := 0 ≤ xu ∧ (xv < 0 ∨ xu + (ww : Int) < xv)) (by omega)).symm, HP2.out.keep (below_drewN (Below.refl _ _) _), HK2.out⟩
                case rest =>
                  obtain ⟨rfl, HPc, HKc⟩ := hcut
                  clear HP2 HK2
                  by_cases hcond : 0 ≤ xu ∧ (xv < 0 ∨ xu + (ww : Int) < xv)
                  · rw [decide_eq_true hcond]
                    have mw : IntKind.i64.wrap (xu + (ww : Int)) = xu + (ww : Int) := IntWalk.i64_in _ (by constructor <;> omega)
                    have l0 : wc.cell? ⟨gl, 0, none⟩ = some (.int .i64 (a : Int)) := cell_of_blk HKc.out rfl
                    have l1 : wc.cell? ⟨gl, 1, none⟩ = some (.int .i64 (b : Int)) := cell_of_blk HKc.out rfl
                    have l2 : wc.cell? ⟨gl, 2, none⟩ = some (.int .i64 (ww : Int)) := cell_of_blk HKc.out rfl
                    have gu := HPc.out.cell hbk
                    have gv := HPc.out.cell hak
                    rw [hxu] at gu
                    rw [hxv] at gv
                    have fv := HPc.out.free a
                    have HE3 : Hid (rl D2 b a ww = rdZ (xs2.set a (xu + (ww : Int)))) := by unfold Hid; rw [HE2.out, rl_some (by rw [hxu]; exact hcond.1) hvx (by rw [hxu, hxv]; exact hcond.2), hxu]
                    go_wp2
                    go_region
                    have HP3 := Lib.hid ((HPc.out.set a (xu + (ww : Int))).keep (Below.refl _ _).drew)
                    have HK3 : Hid ((wc.setCell ⟨g, a, none⟩ (.int .i64 (xu + (ww : Int)))).drew.heap[gl]? = some (.cells #[.int .i64 (a : Int), .int .i64 (b : Int), .int .i64 (ww : Int)] 45 (0, 0))) := (Only.setCell wc ⟨g, a, none⟩ (.int .i64 (xu + (ww : Int)))).at HKc.out (show ¬ gl = g by omega)
                    have HR3 := Lib.hid (HR2.out.set (V' := V3) hvx (y := xu + (ww : Int)) (by constructor <;> omega) (by omega))
                    generalize (wc.setCell ⟨g, a, none⟩ (.int .i64 (xu + (ww : Int)))).drew = w3 at *
                    obtain ⟨xs3, hxs3⟩ : ∃ x, xs2.set a (xu + (ww : Int)) = x := ⟨_, rfl⟩
                    rw [hxs3] at HP3 HR3 HE3
                    clear l0 l1 l2 gu gv fv bu bv HR2 HPc HKc hxu hxv hxl hvx hxs3 HE2 hcond mw
                    have HFN : Hid (((nlk N.lk).take (j + 1)).foldl lk (turns (nlk N.lk) t (Pa.start s)) = rdZ xs3) := by
                      unfold Hid
                      rw [HFM.out]
                      exact HE3.out
                    go_wp2
                    go_roundw
                    case rel => exact ⟨j + 1, xs3, by omega, by go_num, HFN.out.symm, HR3.out.more (by omega), HP3⟩
                    case measure => simp [intOf]; omega
                  · rw [decide_eq_false hcond]
                    have HE3 : Hid (rl D2 b a ww = rdZ xs2) := by
                      unfold Hid
                      rw [HE2.out]
                      by_cases h0 : 0 ≤ xu
                      · exact rl_keep (by rw [hxu]; exact h0) (by rw [hxv]; omega) (by rw [hxu, hxv]; omega)
                      · exact rl_none (by rw [hxu]; omega)
                    have HP3 := HPc
                    have HK3 := HKc
                    have HR3 := Lib.hid (HR2.out.more (V' := V3) (by omega))
                    obtain ⟨w3, hw3⟩ : ∃ x, wc = x := ⟨_, rfl⟩
                    rw [hw3] at HP3 HK3 ⊢
                    obtain ⟨xs3, hxs3⟩ : ∃ x, xs2 = x := ⟨_, rfl⟩
                    rw [hxs3] at HP3 HR3 HE3
                    clear bu bv HR2 HPc HKc hxu hxv hxl hvx hxs3 HE2 hcond hw3
                    have HFN : Hid (((nlk N.lk).take (j + 1)).foldl lk (turns (nlk N.lk) t (Pa.start s)) = rdZ xs3) := by
                      unfold Hid
                      rw [HFM.out]
                      exact HE3.out
                    go_wp2
                    go_roundw
                    case rel => exact ⟨j + 1, xs3, by omega, by go_num, HFN.out.symm, HR3.out.more (by omega), HP3⟩
                    case measure => simp [intOf]; omega
              · rw [decide_eq_false hcond]
                have HE2 : Hid (rl D1 a b ww = rdZ xs1) := by
                  unfold Hid
                  rw [HE1.out]
                  by_cases h0 : 0 ≤ xu
                  · exact rl_keep (by rw [hxu]; exact h0) (by rw [hxv]; omega) (by rw [hxu, hxv]; omega)
                  · exact rl_none (by rw [hxu]; omega)
                have HP2 := HPc
                have HK2 := HKc
                have HR2 := Lib.hid (HR1.out.more (V' := V2) (by omega))
                obtain ⟨w2, hw2⟩ : ∃ x, wc = x := ⟨_, rfl⟩
                rw [hw2] at HP2 HK2 ⊢
                obtain ⟨xs2, hxs2⟩ : ∃ x, xs1 = x := ⟨_, rfl⟩
                rw [hxs2] at HP2 HR2 HE2
                clear bu bv HR1 HPc HKc hxu hxv hxl hvx hxs2 HE1 hcond hw2
                have HE2' : Hid (D2 = rdZ xs2) := by unfold Hid; rw [← HD2.out]; exact HE2.out
                clear HE2
                have HE2 := HE2'
                clear HE2'
                obtain ⟨xu, hxu⟩ : ∃ xu, xs2.getD b (-1) = xu := ⟨_, rfl⟩
                obtain ⟨xv, hxv⟩ : ∃ xv, xs2.getD a (-1) = xv := ⟨_, rfl⟩
                have bu := HR2.out b
                have bv := HR2.out a
                rw [hxu] at bu
                rw [hxv] at bv
                have hxl := HP2.out.len
                have hvx : a < xs2.length := by omega
                go_upto_region 16 with fail
                go_cut [113] (fun vv wx => vv = .bool (decide (0 ≤ xu ∧ (xv < 0 ∨ xu + (ww : Int) < xv))) ∧ Hid (Pz w N A k c (some ⟨bb, o, none⟩) m c' g cap xs2 wx) ∧ Hid (wx.heap[gl]? = some (.cells #[.int .i64 (a : Int), .int .i64 (b : Int), .int .i64 (ww : Int)] 45 (0, 0))))
                case first =>
                  have l0 : w2.cell? ⟨gl, 0, none⟩ = some (.int .i64 (a : Int)) := cell_of_blk HK2.out rfl
                  have l1 : w2.cell? ⟨gl, 1, none⟩ = some (.int .i64 (b : Int)) := cell_of_blk HK2.out rfl
                  have l2 : w2.cell? ⟨gl, 2, none⟩ = some (.int .i64 (ww : Int)) := cell_of_blk HK2.out rfl
                  have gu := HP2.out.cell hbk
                  have gv := HP2.out.cell hak
                  rw [hxu] at gu
                  rw [hxv] at gv
                  by_cases h0 : 0 ≤ xu
                  · have d0 : decide (0 ≤ xu) = true := decide_eq_true h0
                    have mw : IntKind.i64.wrap (xu + (ww : Int)) = xu + (ww : Int) := IntWalk.i64_in _ (by constructor <;> omega)
                    by_cases h1 : xv < 0
                    · have d1 : decide (xv < 0) = true := decide_eq_true h1
                      go_quiet (fail)
                      go_wp2
                      go_meet
                      exact ⟨congrArg Value.bool (decide_eq_true (p := 0 ≤ xu ∧ (xv < 0 ∨ xu + (ww : Int) < xv)) (by omega)).symm, HP2.out.keep (below_drewN (Below.refl _ _) _), HK2.out⟩
                    · have d1 : decide (xv < 0) = false := decide_eq_false h1
                      by_cases h2 : xu + (ww : Int) < xv
                      · have d2 : decide (xu + (ww : Int) < xv) = true := decide_eq_true h2
                        go_quiet (fail)
                        go_wp2
                        go_meet
                        exact ⟨congrArg Value.bool (decide_eq_true (p := 0 ≤ xu ∧ (xv < 0 ∨ xu + (ww : Int) < xv)) (by omega)).symm, HP2.out.keep (below_drewN (Below.refl _ _) _), HK2.out⟩
                      · have d2 : decide (xu + (ww : Int) < xv) = false := decide_eq_false h2
                        go_quiet (fail)
                        go_wp2
                        go_meet
                        exact ⟨congrArg Value.bool (decide_eq_false (p := 0 ≤ xu ∧ (xv < 0 ∨ xu + (ww : Int) < xv)) (by omega)).symm, HP2.out.keep (below_drewN (Below.refl _ _) _), HK2.out⟩
                  · have d0 : decide (0 ≤ xu) = false := decide_eq_false h0
                    go_quiet (fail)
                    go_wp2
                    go_meet
                    exact ⟨congrArg Value.bool (decide_eq_false (p := 0 ≤ xu ∧ (xv < 0 ∨ xu + (ww : Int) < xv)) (by omega)).symm, HP2.out.keep (below_drewN (Below.refl _ _) _), HK2.out⟩
                case rest =>
                  obtain ⟨rfl, HPc, HKc⟩ := hcut
                  clear HP2 HK2
                  by_cases hcond : 0 ≤ xu ∧ (xv < 0 ∨ xu + (ww : Int) < xv)
                  · rw [decide_eq_true hcond]
                    have mw : IntKind.i64.wrap (xu + (ww : Int)) = xu + (ww : Int) := IntWalk.i64_in _ (by constructor <;> omega)
                    have l0 : wc.cell? ⟨gl, 0, none⟩ = some (.int .i64 (a : Int)) := cell_of_blk HKc.out rfl
                    have l1 : wc.cell? ⟨gl, 1, none⟩ = some (.int .i64 (b : Int)) := cell_of_blk HKc.out rfl
                    have l2 : wc.cell? ⟨gl, 2, none⟩ = some (.int .i64 (ww : Int)) := cell_of_blk HKc.out rfl
                    have gu := HPc.out.cell hbk
                    have gv := HPc.out.cell hak
                    rw [hxu] at gu
                    rw [hxv] at gv
                    have fv := HPc.out.free a
                    have HE3 : Hid (rl D2 b a ww = rdZ (xs2.set a (xu + (ww : Int)))) := by unfold Hid; rw [HE2.out, rl_some (by rw [hxu]; exact hcond.1) hvx (by rw [hxu, hxv]; exact hcond.2), hxu]
                    go_wp2
                    go_region
                    have HP3 := Lib.hid ((HPc.out.set a (xu + (ww : Int))).keep (Below.refl _ _).drew)
                    have HK3 : Hid ((wc.setCell ⟨g, a, none⟩ (.int .i64 (xu + (ww : Int)))).drew.heap[gl]? = some (.cells #[.int .i64 (a : Int), .int .i64 (b : Int), .int .i64 (ww : Int)] 45 (0, 0))) := (Only.setCell wc ⟨g, a, none⟩ (.int .i64 (xu + (ww : Int)))).at HKc.out (show ¬ gl = g by omega)
                    have HR3 := Lib.hid (HR2.out.set (V' := V3) hvx (y := xu + (ww : Int)) (by constructor <;> omega) (by omega))
                    generalize (wc.setCell ⟨g, a, none⟩ (.int .i64 (xu + (ww : Int)))).drew = w3 at *
                    obtain ⟨xs3, hxs3⟩ : ∃ x, xs2.set a (xu + (ww : Int)) = x := ⟨_, rfl⟩
                    rw [hxs3] at HP3 HR3 HE3
                    clear l0 l1 l2 gu gv fv bu bv HR2 HPc HKc hxu hxv hxl hvx hxs3 HE2 hcond mw
                    have HFN : Hid (((nlk N.lk).take (j + 1)).foldl lk (turns (nlk N.lk) t (Pa.start s)) = rdZ xs3) := by
                      unfold Hid
                      rw [HFM.out]
                      exact HE3.out
                    go_wp2
                    go_roundw
                    case rel => exact ⟨j + 1, xs3, by omega, by go_num, HFN.out.symm, HR3.out.more (by omega), HP3⟩
                    case measure => simp [intOf]; omega
                  · rw [decide_eq_false hcond]
                    have HE3 : Hid (rl D2 b a ww = rdZ xs2) := by
                      unfold Hid
                      rw [HE2.out]
                      by_cases h0 : 0 ≤ xu
                      · exact rl_keep (by rw [hxu]; exact h0) (by rw [hxv]; omega) (by rw [hxu, hxv]; omega)
                      · exact rl_none (by rw [hxu]; omega)
                    have HP3 := HPc
                    have HK3 := HKc
                    have HR3 := Lib.hid (HR2.out.more (V' := V3) (by omega))
                    obtain ⟨w3, hw3⟩ : ∃ x, wc = x := ⟨_, rfl⟩
                    rw [hw3] at HP3 HK3 ⊢
                    obtain ⟨xs3, hxs3⟩ : ∃ x, xs2 = x := ⟨_, rfl⟩
                    rw [hxs3] at HP3 HR3 HE3
                    clear bu bv HR2 HPc HKc hxu hxv hxl hvx hxs3 HE2 hcond hw3
                    have HFN : Hid (((nlk N.lk).take (j + 1)).foldl lk (turns (nlk N.lk) t (Pa.start s)) = rdZ xs3) := by
                      unfold Hid
                      rw [HFM.out]
                      exact HE3.out
                    go_wp2
                    go_roundw
                    case rel => exact ⟨j + 1, xs3, by omega, by go_num, HFN.out.symm, HR3.out.more (by omega), HP3⟩
                    case measure => simp [intOf]; omega
          · have e3 : decide ((j : Int) < (m : Int)) = false := decide_eq_false (by omega)
            have HFN : Hid (rdZ xs1 = turns (nlk N.lk) (t + 1) (Pa.start s)) := by
              have h1 := HF.out
              rw [show j = m by omega, fold_allP HLL.out] at h1
              exact h1
            have HRN : Hid (Rng (((t + 1 : Nat) : Int) * 68719476736) xs1) := HR1.out.more (by push_cast; omega)
            go_wp2
            go_roundw
            case rel => exact ⟨t + 1, xs1, by omega, by go_num, HFN, HRN, HP⟩
            case measure => simp [intOf]; omega
      · have e2 : decide ((t : Int) < (k : Int)) = false := decide_eq_false (by omega)
        have HE : Hid (xs = farL N s) := far_rd (by rw [HLS.out]; exact HP.out.len) HR.out (by rw [HF.out, show t = k by omega, ← HLS.out]; rfl)
        go_wp2
        go_ret
        refine ⟨_, rfl, InTo.of_own (n := k) (e := 3) ?_ HP.out.bx.bel⟩
        rw [← HE.out]
        exact ownr_base HP.out.own (by omega)
end Go.Proofs.Ytdhlbcbgbmgcjaa.Pt
