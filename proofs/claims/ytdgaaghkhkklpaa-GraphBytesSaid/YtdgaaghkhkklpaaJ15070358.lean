/- Lemmas that the proof stands on, in build order: GfP. -/
import Derived.Test.YtdgaaghkhkklpaaJ12c8aa12
import Derived.Test.YtdgaaghkhkklpaaJ14196a67
import Derived.Test.YtdgaaghkhkklpaaJ63e688c
/- Layer 15 (graph): the reference's Put, as a contract. -/
namespace Go.Proofs.Ytdgaaghkhkklpaa.Gf
open Go.RowKit Rec Ints Ge Var Fld Frm

theorem Bx.belowN {w w1 w2 : World} {N : Nt} {A A' : Option Addr} {n c m c' : Nat} (h : Bx w N A n c A' m c' w1) (hb : Below (w.heap.size + 1) w1 w2) : Bx w N A n c A' m c' w2 :=
  ⟨(hb.block _ (by omega)).trans h.blk, h.bel.trans (hb.mono (by omega)), h.at_.below (hb.mono (by omega))⟩
theorem info_by : (Try.prog.info? 5).map (fun i => (i.zero, i.size, i.bytes)) = some (some (.int .u8 0), 1, 1) := by kernel_rfl
theorem encS_byt (l : List C) : Byt (encS l) := by
  induction l with
  | nil => intro x hx; cases hx
  | cons p t ih =>
    intro x hx
    rw [encS] at hx
    rcases List.mem_append.1 hx with hx | hx
    · rcases List.mem_append.1 hx with hx | hx
      · exact put_byt _ x hx
      · exact put_byt _ x hx
    · exact ih x hx
theorem encL_byt (l : List L3) : Byt (encL l) := by
  induction l with
  | nil => intro x hx; cases hx
  | cons p t ih =>
    intro x hx
    rw [encL] at hx
    rcases List.mem_append.1 hx with hx | hx
    · rcases List.mem_append.1 hx with hx | hx
      · exact put_byt _ x hx
      · rcases List.mem_append.1 hx with hx | hx
        · exact put_byt _ x hx
        · exact put_byt _ x hx
    · exact ih x hx
theorem cont_byt (N : Nt) : Byt (cont N) := by
  intro x hx
  unfold cont at hx
  rcases List.mem_append.1 hx with hx | hx
  · exact put_byt _ x hx
  rcases List.mem_append.1 hx with hx | hx
  · exact put_byt _ x hx
  rcases List.mem_append.1 hx with hx | hx
  · exact encS_byt _ x hx
  rcases List.mem_append.1 hx with hx | hx
  · exact put_byt _ x hx
  · exact encL_byt _ x hx

set_option maxHeartbeats 3200000 in
set_option maxRecDepth 100000 in
theorem refput_any (N : Nt) (A A' : Option Addr) (n c m c' : Nat) (w : World) (h : NAt w w.heap.size N A n c A' m c') (hc : check N = 0) :
    Calls Try.prog 12 #[.agg #[.int .i64 N.ver, .slice A n c, .slice A' m c']] w fun e w' => ∃ v, e = .returned v ∧ ByTo w.heap.size w (frame 3 (cont N)) v w' := by
  obtain ⟨i0, hi, hz0, hz1, hz2⟩ := info_of info_by
  have hv := valid_of hc
  have HOC := Lib.hid (okC_of hv)
  have HOL := Lib.hid (okL_of hv)
  have HCL := Lib.hid (cont_len hv)
  have hv1 := hv.v1
  have hv2 := hv.v2
  have hns := hv.ns
  have hnl := hv.nl
  clear hv hc
  obtain ⟨ver, st, lk⟩ := N
  have HBA := Lib.hid (Bx.start h)
  have hls : st.length = n := h.st.len
  have hll : lk.length = m := h.lk.len
  simp only at HBA HOC HOL hv1 hv2 hns hnl ⊢
  have HCQ : Hid (cont ⟨ver, st, lk⟩ = num ver ++ (num (n : Int) ++ (encS st ++ (num (m : Int) ++ encL lk)))) := by unfold Hid cont; simp only; rw [hls, hll]
  rw [hls] at hns
  rw [hll] at hnl
  have HLS := Lib.hid hls
  have HLL := Lib.hid hll
  have HZA := Lib.hid HBA.out.lt
  have HSA : Hid ((w.alloc (.cells #[.int .i64 ver, .slice A n c, .slice A' m c'] 25)).heap.size = w.heap.size + 1) := by unfold Hid; simp
  clear h hls hll
  go_enter Try.func12, Try.ntmps12
  go_wp2_with fail
  generalize w.alloc (.cells #[.int .i64 ver, .slice A n c, .slice A' m c'] 25) = wA at *
  refine (refnumber_any ver (by omega) _).mono ?_
  rintro ef0 wf0 ⟨vf0, rfl, hown0, hb0⟩
  obtain ⟨X0, hX0⟩ : ∃ X, X = num ver := ⟨_, rfl⟩
  have HXL0 : Hid (X0.length ≤ 10) := by unfold Hid; rw [hX0]; exact num_len (by omega)
  rw [← hX0] at hown0
  have HO0 : Hid (wf0.ownsRow (w.heap.size + 1) 5 1 vf0 X0.length (X0.map (Value.int .u8))) := ownr_base hown0 (by rw [HSA.out]; omega)
  have HB0 := Lib.hid (HBA.out.below hb0)
  have HX0 := Lib.hid hX0
  clear hown0 hb0 hX0 HBA HSA HZA
  have z1 : wf0.cell? ⟨w.heap.size, 1, none⟩ = some (.slice A n c) := cell_of_blk HB0.out.blk rfl
  go_wp2_with fail
  refine (refnumber_any ((n : Int)) (by omega) _).mono ?_
  rintro ef1 wf1 ⟨vf1, rfl, hown1, hb1⟩
  obtain ⟨Af1, cf1, rfl, -, hnil1⟩ := own_slice hown1
  have HL1 : Hid ((num ((n : Int))).length ≤ 10) := num_len (by omega)
  have HNR1 : Hid (Row .u8 wf1 wf1.heap.size Af1 (num ((n : Int))).length (num ((n : Int)))) := Row.of_own hown1
  have HNN1 := Lib.hid hnil1
  have HOX1 := Lib.hid (own_below HO0.out hb1)
  have HBX1 := Lib.hid (HB0.out.below hb1)
  have HZ1 := Lib.hid HBX1.out.lt
  clear hown1 hb1 hnil1 HB0 HO0
  go_wp2_with (at_builtin; go_loud (refine cat_own rfl (.tmp 9) (.tmp 13) 26 rfl (w.heap.size + 1) 5 i0 .u8 1 Try.underlying26 hi hz0 hz1 hz2 _ X0.length X0 rfl HOX1.out wf1.heap.size Af1 (num ((n : Int))).length cf1 (num ((n : Int))) rfl HNN1.out HNR1.out (by have h1 := HL1.out; have h2 := HXL0.out; omega) (by omega) HZ1.out ?_); intro vo1 wo1 ho1 hy1; have HOY1 := Lib.hid ho1; have HB1 := Lib.hid (HBX1.out.belowN hy1); clear ho1 hy1)
  obtain ⟨X1, hX1⟩ : ∃ X, X = X0 ++ num ((n : Int)) := ⟨_, rfl⟩
  have HXL1 : Hid (X1.length ≤ 20) := by have h1 := HL1.out; have h2 := HXL0.out; unfold Hid; rw [hX1, List.length_append]; omega
  have HO1 : Hid (wo1.ownsRow (w.heap.size + 1) 5 1 vo1 X1.length (X1.map (Value.int .u8))) := by have h1 := HOY1.out; unfold Hid; rw [hX1, List.length_append]; exact h1
  have HX1 := Lib.hid hX1
  clear hX1 HOY1 HOX1 HBX1 HNR1 HNN1 HL1 HZ1
  clear z1
  have HS0 : Hid (X1 = (num ver ++ num (n : Int)) ++ encS (st.take 0)) := by unfold Hid; rw [HX1.out, HX0.out, List.take_zero, encS, List.append_nil]
  go_wp2
  go_loopw [3, 4] (fun v i wr => ∃ (k : Nat) (X : List Int), k ≤ n ∧ i = .int .i64 (k : Int) ∧ Hid (X = (num ver ++ num (n : Int)) ++ encS (st.take k)) ∧ Hid (X.length ≤ 20 + 20 * k) ∧ Hid (wr.ownsRow (w.heap.size + 1) 5 1 v X.length (X.map (Value.int .u8))) ∧ Hid (Bx w ⟨ver, st, lk⟩ A n c A' m c' wr)) (fun _ i _ => n - (intOf i).toNat)
  case atStart => exact ⟨0, X1, Nat.zero_le _, rfl, HS0, HXL1, HO1, HB1⟩
  case round =>
    clear HS0 HXL1 HO1 HB1 HX0 HX1 HXL0
    clear X1
    obtain ⟨k, X0, hk, rfl, HXQ, HXL0, HO0, HB0⟩ := hrel
    have z1 : wr.cell? ⟨w.heap.size, 1, none⟩ = some (.slice A n c) := cell_of_blk HB0.out.blk rfl
    by_cases hlt : k < n
    · obtain ⟨b, o, p, rfl, hbb, hp, c0, c1⟩ := two_at HB0.out.at_.st hlt
      obtain ⟨px, py⟩ := p
      simp only at c0 c1 hp
      have hpo := HOC.out _ (List.mem_of_getElem? hp)
      have hpx : px ≤ 9223372036854775807 := by have := hpo.1; simp only at this; omega
      have hpy : py ≤ 9223372036854775807 := by have := hpo.2; simp only at this; omega
      have HP := Lib.hid hp
      clear hp hpo
      go_wp2_with fail
      refine (refnumber_any (px) (hpx) _).mono ?_
      rintro ef1 wf1 ⟨vf1, rfl, hown1, hb1⟩
      obtain ⟨Af1, cf1, rfl, -, hnil1⟩ := own_slice hown1
      have HL1 : Hid ((num (px)).length ≤ 10) := num_len (hpx)
      have HNR1 : Hid (Row .u8 wf1 wf1.heap.size Af1 (num (px)).length (num (px))) := Row.of_own hown1
      have HNN1 := Lib.hid hnil1
      have HOX1 := Lib.hid (own_below HO0.out hb1)
      have HBX1 := Lib.hid (HB0.out.below hb1)
      have HZ1 := Lib.hid HBX1.out.lt
      clear hown1 hb1 hnil1 HB0 HO0
      go_wp2_with (at_builtin; go_loud (refine cat_own rfl (.tmp 22) (.tmp 29) 26 rfl (w.heap.size + 1) 5 i0 .u8 1 Try.underlying26 hi hz0 hz1 hz2 _ X0.length X0 rfl HOX1.out wf1.heap.size Af1 (num (px)).length cf1 (num (px)) rfl HNN1.out HNR1.out (by have h1 := HL1.out; have h2 := HXL0.out; omega) (by omega) HZ1.out ?_); intro vo1 wo1 ho1 hy1; have HOY1 := Lib.hid ho1; have HB1 := Lib.hid (HBX1.out.belowN hy1); clear ho1 hy1; clear c0 c1 z1; have z1 : wo1.cell? ⟨w.heap.size, 1, none⟩ = some (.slice (some ⟨b, o, none⟩) n c) := cell_of_blk HB1.out.blk rfl; obtain ⟨b', o', p', e5, _, hp', c0, c1⟩ := two_at HB1.out.at_.st hlt; injection e5 with e5; injection e5 with e5 e6; subst e5 e6; rw [HP.out] at hp'; injection hp' with hp'; subst hp'; simp only at c0 c1)
      obtain ⟨X1, hX1⟩ : ∃ X, X = X0 ++ num (px) := ⟨_, rfl⟩
      have HXL1 : Hid (X1.length ≤ 30 + 20 * k) := by have h1 := HL1.out; have h2 := HXL0.out; unfold Hid; rw [hX1, List.length_append]; omega
      have HO1 : Hid (wo1.ownsRow (w.heap.size + 1) 5 1 vo1 X1.length (X1.map (Value.int .u8))) := by have h1 := HOY1.out; unfold Hid; rw [hX1, List.length_append]; exact h1
      have HX1 := Lib.hid hX1
      clear hX1 HOY1 HOX1 HBX1 HNR1 HNN1 HL1 HZ1
      go_wp2_with fail
      refine (refnumber_any (py) (hpy) _).mono ?_
      rintro ef2 wf2 ⟨vf2, rfl, hown2, hb2⟩
      obtain ⟨Af2, cf2, rfl, -, hnil2⟩ := own_slice hown2
      have HL2 : Hid ((num (py)).length ≤ 10) := num_len (hpy)
      have HNR2 : Hid (Row .u8 wf2 wf2.heap.size Af2 (num (py)).length (num (py))) := Row.of_own hown2
      have HNN2 := Lib.hid hnil2
      have HOX2 := Lib.hid (own_below HO1.out hb2)
      have HBX2 := Lib.hid (HB1.out.below hb2)
      have HZ2 := Lib.hid HBX2.out.lt
      clear hown2 hb2 hnil2 HB1 HO1
      go_wp2_with (at_builtin; go_loud (refine cat_own rfl (.tmp 31) (.tmp 38) 26 rfl (w.heap.size + 1) 5 i0 .u8 1 Try.underlying26 hi hz0 hz1 hz2 _ X1.length X1 rfl HOX2.out wf2.heap.size Af2 (num (py)).length cf2 (num (py)) rfl HNN2.out HNR2.out (by have h1 := HL2.out; have h2 := HXL1.out; omega) (by omega) HZ2.out ?_); intro vo2 wo2 ho2 hy2; have HOY2 := Lib.hid ho2; have HB2 := Lib.hid (HBX2.out.belowN hy2); clear ho2 hy2)
      obtain ⟨X2, hX2⟩ : ∃ X, X = X1 ++ num (py) := ⟨_, rfl⟩
      have HXL2 : Hid (X2.length ≤ 40 + 20 * k) := by have h1 := HL2.out; have h2 := HXL1.out; unfold Hid; rw [hX2, List.length_append]; omega
      have HO2 : Hid (wo2.ownsRow (w.heap.size + 1) 5 1 vo2 X2.length (X2.map (Value.int .u8))) := by have h1 := HOY2.out; unfold Hid; rw [hX2, List.length_append]; exact h1
      have HX2 := Lib.hid hX2
      clear hX2 HOY2 HOX2 HBX2 HNR2 HNN2 HL2 HZ2
      have HXN : Hid (X2 = (num ver ++ num (n : Int)) ++ encS (st.take (k + 1))) := by
        unfold Hid
        rw [HX2.out, HX1.out, HXQ.out, List.take_add_one, HP.out]
        show _ = _ ++ encS (st.take k ++ [(px, py)])
        rw [encS_snoc]
        simp only [List.append_assoc]
      clear HX2 HX1 HXQ HP c0 c1 z1
      go_wp2
      go_roundw
      case rel => exact ⟨k + 1, X2, by omega, by go_num, HXN, by have := HXL2.out; unfold Hid; omega, HO2, HB2⟩
      case measure => simp [intOf]; omega
    · obtain rfl : k = n := by omega
      have HSQ : Hid (X0 = (num ver ++ num (k : Int)) ++ encS st) := by have h1 := HXQ.out; rw [List.take_of_length_le (by have := HLS.out; omega)] at h1; exact h1
      have z2 : wr.cell? ⟨w.heap.size, 2, none⟩ = some (.slice A' m c') := cell_of_blk HB0.out.blk rfl
      clear HXQ
      go_wp2_with fail
      refine (refnumber_any ((m : Int)) (by omega) _).mono ?_
      rintro ef1 wf1 ⟨vf1, rfl, hown1, hb1⟩
      obtain ⟨Af1, cf1, rfl, -, hnil1⟩ := own_slice hown1
      have HL1 : Hid ((num ((m : Int))).length ≤ 10) := num_len (by omega)
      have HNR1 : Hid (Row .u8 wf1 wf1.heap.size Af1 (num ((m : Int))).length (num ((m : Int)))) := Row.of_own hown1
      have HNN1 := Lib.hid hnil1
      have HOX1 := Lib.hid (own_below HO0.out hb1)
      have HBX1 := Lib.hid (HB0.out.below hb1)
      have HZ1 := Lib.hid HBX1.out.lt
      clear hown1 hb1 hnil1 HB0 HO0
      go_wp2_with (at_builtin; go_loud (refine cat_own rfl (.tmp 40) (.tmp 44) 26 rfl (w.heap.size + 1) 5 i0 .u8 1 Try.underlying26 hi hz0 hz1 hz2 _ X0.length X0 rfl HOX1.out wf1.heap.size Af1 (num ((m : Int))).length cf1 (num ((m : Int))) rfl HNN1.out HNR1.out (by have h1 := HL1.out; have h2 := HXL0.out; omega) (by omega) HZ1.out ?_); intro vo1 wo1 ho1 hy1; have HOY1 := Lib.hid ho1; have HB1 := Lib.hid (HBX1.out.belowN hy1); clear ho1 hy1)
      obtain ⟨X1, hX1⟩ : ∃ X, X = X0 ++ num ((m : Int)) := ⟨_, rfl⟩
      have HXL1 : Hid (X1.length ≤ 30 + 20 * k) := by have h1 := HL1.out; have h2 := HXL0.out; unfold Hid; rw [hX1, List.length_append]; omega
      have HO1 : Hid (wo1.ownsRow (w.heap.size + 1) 5 1 vo1 X1.length (X1.map (Value.int .u8))) := by have h1 := HOY1.out; unfold Hid; rw [hX1, List.length_append]; exact h1
      have HX1 := Lib.hid hX1
      clear hX1 HOY1 HOX1 HBX1 HNR1 HNN1 HL1 HZ1
      clear z1 z2
      have HS0 : Hid (X1 = (X0 ++ num (m : Int)) ++ encL (lk.take 0)) := by unfold Hid; rw [HX1.out, List.take_zero, encL, List.append_nil]
      have HXK := Lib.hid hk
      clear hlt
      obtain ⟨Y0, hY0⟩ : ∃ Y, X0 ++ num (m : Int) = Y := ⟨_, rfl⟩
      rw [hY0] at HS0
      have HY0 := Lib.hid hY0
      have HXM : Hid (X1.length ≤ 20 + 20 * 4096 + 10 + 30 * 0) := by have := HXL1.out; unfold Hid; omega
      clear hY0
      go_wp2
      go_loopw [3, 5] (fun v i wr => ∃ (j : Nat) (X : List Int), j ≤ m ∧ i = .int .i64 (j : Int) ∧ Hid (X = Y0 ++ encL (lk.take j)) ∧ Hid (X.length ≤ 20 + 20 * 4096 + 10 + 30 * j) ∧ Hid (wr.ownsRow (w.heap.size + 1) 5 1 v X.length (X.map (Value.int .u8))) ∧ Hid (Bx w ⟨ver, st, lk⟩ A k c A' m c' wr)) (fun _ i _ => m - (intOf i).toNat)
      case atStart => exact ⟨0, X1, Nat.zero_le _, rfl, HS0, HXM, HO1, HB1⟩
      case round =>
        have HSQ' := HSQ
        have HY0' := HY0
        clear HS0 HXM HO1 HB1 HX1 HXL1
        clear X1
        obtain ⟨j, X9, hj, rfl, HXQ, HXL9, HO9, HB9⟩ := hrel
        have z2 : wr.cell? ⟨w.heap.size, 2, none⟩ = some (.slice A' m c') := cell_of_blk HB9.out.blk rfl
        by_cases hlt : j < m
        · obtain ⟨b, o, p, rfl, hbb, hp, c0, c1, c2⟩ := lk_at HB9.out.at_.lk hlt
          obtain ⟨la, lb, lw⟩ := p
          simp only at c0 c1 c2 hp
          have hpo := HOL.out _ (List.mem_of_getElem? hp)
          have hla : la ≤ 9223372036854775807 := by have := hpo.1; simp only at this; omega
          have hlb : lb ≤ 9223372036854775807 := by have := hpo.2.1; simp only at this; omega
          have hlw : lw ≤ 9223372036854775807 := by have := hpo.2.2; simp only at this; omega
          have HP := Lib.hid hp
          clear hp hpo
          go_wp2_with fail
          refine (refnumber_any (la) (hla) _).mono ?_
          rintro ef10 wf10 ⟨vf10, rfl, hown10, hb10⟩
          obtain ⟨Af10, cf10, rfl, -, hnil10⟩ := own_slice hown10
          have HL10 : Hid ((num (la)).length ≤ 10) := num_len (hla)
          have HNR10 : Hid (Row .u8 wf10 wf10.heap.size Af10 (num (la)).length (num (la))) := Row.of_own hown10
          have HNN10 := Lib.hid hnil10
          have HOX10 := Lib.hid (own_below HO9.out hb10)
          have HBX10 := Lib.hid (HB9.out.below hb10)
          have HZ10 := Lib.hid HBX10.out.lt
          clear hown10 hb10 hnil10 HB9 HO9
          go_wp2_with (at_builtin; go_loud (refine cat_own rfl (.tmp 53) (.tmp 60) 26 rfl (w.heap.size + 1) 5 i0 .u8 1 Try.underlying26 hi hz0 hz1 hz2 _ X9.length X9 rfl HOX10.out wf10.heap.size Af10 (num (la)).length cf10 (num (la)) rfl HNN10.out HNR10.out (by have h1 := HL10.out; have h2 := HXL9.out; omega) (by omega) HZ10.out ?_); intro vo10 wo10 ho10 hy10; have HOY10 := Lib.hid ho10; have HB10 := Lib.hid (HBX10.out.belowN hy10); clear ho10 hy10; clear c0 c1 c2 z2; have z2 : wo10.cell? ⟨w.heap.size, 2, none⟩ = some (.slice (some ⟨b, o, none⟩) m c') := cell_of_blk HB10.out.blk rfl; obtain ⟨b', o', p', e5, _, hp', c0, c1, c2⟩ := lk_at HB10.out.at_.lk hlt; injection e5 with e5; injection e5 with e5 e6; subst e5 e6; rw [HP.out] at hp'; injection hp' with hp'; subst hp'; simp only at c0 c1 c2)
          obtain ⟨X10, hX10⟩ : ∃ X, X = X9 ++ num (la) := ⟨_, rfl⟩
          have HXL10 : Hid (X10.length ≤ 20 + 20 * 4096 + 20 + 30 * j) := by have h1 := HL10.out; have h2 := HXL9.out; unfold Hid; rw [hX10, List.length_append]; omega
          have HO10 : Hid (wo10.ownsRow (w.heap.size + 1) 5 1 vo10 X10.length (X10.map (Value.int .u8))) := by have h1 := HOY10.out; unfold Hid; rw [hX10, List.length_append]; exact h1
          have HX10 := Lib.hid hX10
          clear hX10 HOY10 HOX10 HBX10 HNR10 HNN10 HL10 HZ10
          go_wp2_with fail
          refine (refnumber_any (lb) (hlb) _).mono ?_
          rintro ef11 wf11 ⟨vf11, rfl, hown11, hb11⟩
          obtain ⟨Af11, cf11, rfl, -, hnil11⟩ := own_slice hown11
          have HL11 : Hid ((num (lb)).length ≤ 10) := num_len (hlb)
          have HNR11 : Hid (Row .u8 wf11 wf11.heap.size Af11 (num (lb)).length (num (lb))) := Row.of_own hown11
          have HNN11 := Lib.hid hnil11
          have HOX11 := Lib.hid (own_below HO10.out hb11)
          have HBX11 := Lib.hid (HB10.out.below hb11)
          have HZ11 := Lib.hid HBX11.out.lt
          clear hown11 hb11 hnil11 HB10 HO10
          go_wp2_with (at_builtin; go_loud (refine cat_own rfl (.tmp 62) (.tmp 69) 26 rfl (w.heap.size + 1) 5 i0 .u8 1 Try.underlying26 hi hz0 hz1 hz2 _ X10.length X10 rfl HOX11.out wf11.heap.size Af11 (num (lb)).length cf11 (num (lb)) rfl HNN11.out HNR11.out (by have h1 := HL11.out; have h2 := HXL10.out; omega) (by omega) HZ11.out ?_); intro vo11 wo11 ho11 hy11; have HOY11 := Lib.hid ho11; have HB11 := Lib.hid (HBX11.out.belowN hy11); clear ho11 hy11; clear c0 c1 c2 z2; have z2 : wo11.cell? ⟨w.heap.size, 2, none⟩ = some (.slice (some ⟨b, o, none⟩) m c') := cell_of_blk HB11.out.blk rfl; obtain ⟨b', o', p', e5, _, hp', c0, c1, c2⟩ := lk_at HB11.out.at_.lk hlt; injection e5 with e5; injection e5 with e5 e6; subst e5 e6; rw [HP.out] at hp'; injection hp' with hp'; subst hp'; simp only at c0 c1 c2)
          obtain ⟨X11, hX11⟩ : ∃ X, X = X10 ++ num (lb) := ⟨_, rfl⟩
          have HXL11 : Hid (X11.length ≤ 20 + 20 * 4096 + 30 + 30 * j) := by have h1 := HL11.out; have h2 := HXL10.out; unfold Hid; rw [hX11, List.length_append]; omega
          have HO11 : Hid (wo11.ownsRow (w.heap.size + 1) 5 1 vo11 X11.length (X11.map (Value.int .u8))) := by have h1 := HOY11.out; unfold Hid; rw [hX11, List.length_append]; exact h1
          have HX11 := Lib.hid hX11
          clear hX11 HOY11 HOX11 HBX11 HNR11 HNN11 HL11 HZ11
          go_wp2_with fail
          refine (refnumber_any (lw) (hlw) _).mono ?_
          rintro ef12 wf12 ⟨vf12, rfl, hown12, hb12⟩
          obtain ⟨Af12, cf12, rfl, -, hnil12⟩ := own_slice hown12
          have HL12 : Hid ((num (lw)).length ≤ 10) := num_len (hlw)
          have HNR12 : Hid (Row .u8 wf12 wf12.heap.size Af12 (num (lw)).length (num (lw))) := Row.of_own hown12
          have HNN12 := Lib.hid hnil12
          have HOX12 := Lib.hid (own_below HO11.out hb12)
          have HBX12 := Lib.hid (HB11.out.below hb12)
          have HZ12 := Lib.hid HBX12.out.lt
          clear hown12 hb12 hnil12 HB11 HO11
          go_wp2_with (at_builtin; go_loud (refine cat_own rfl (.tmp 71) (.tmp 78) 26 rfl (w.heap.size + 1) 5 i0 .u8 1 Try.underlying26 hi hz0 hz1 hz2 _ X11.length X11 rfl HOX12.out wf12.heap.size Af12 (num (lw)).length cf12 (num (lw)) rfl HNN12.out HNR12.out (by have h1 := HL12.out; have h2 := HXL11.out; omega) (by omega) HZ12.out ?_); intro vo12 wo12 ho12 hy12; have HOY12 := Lib.hid ho12; have HB12 := Lib.hid (HBX12.out.belowN hy12); clear ho12 hy12)
          obtain ⟨X12, hX12⟩ : ∃ X, X = X11 ++ num (lw) := ⟨_, rfl⟩
          have HXL12 : Hid (X12.length ≤ 20 + 20 * 4096 + 40 + 30 * j) := by have h1 := HL12.out; have h2 := HXL11.out; unfold Hid; rw [hX12, List.length_append]; omega
          have HO12 : Hid (wo12.ownsRow (w.heap.size + 1) 5 1 vo12 X12.length (X12.map (Value.int .u8))) := by have h1 := HOY12.out; unfold Hid; rw [hX12, List.length_append]; exact h1
          have HX12 := Lib.hid hX12
          clear hX12 HOY12 HOX12 HBX12 HNR12 HNN12 HL12 HZ12
          have HXN : Hid (X12 = Y0 ++ encL (lk.take (j + 1))) := by
            unfold Hid
            rw [HX12.out, HX11.out, HX10.out, HXQ.out, List.take_add_one, HP.out]
            show _ = _ ++ encL (lk.take j ++ [(la, lb, lw)])
            rw [encL_snoc]
            simp only [List.append_assoc]
          clear HX12 HX11 HX10 HXQ HP c0 c1 c2 z2
          go_wp2
          go_roundw
          case rel => exact ⟨j + 1, X12, by omega, by go_num, HXN, by have := HXL12.out; unfold Hid; omega, HO12, HB12⟩
          case measure => simp [intOf]; omega
        · obtain rfl : j = m := by omega
          have HXE : Hid (X9 = cont ⟨ver, st, lk⟩) := by
            unfold Hid
            rw [HXQ.out, List.take_of_length_le (by have := HLL.out; omega), ← HY0.out, HSQ.out, HCQ.out]
            simp only [List.append_assoc]
          obtain ⟨A9, c9, rfl, -, hnil9⟩ := own_slice HO9.out
          have HR9 := Lib.hid (Row.of_own HO9.out)
          have HN9 := Lib.hid hnil9
          have HBY : Hid (Byt X9) := by unfold Hid; rw [HXE.out]; exact cont_byt _
          have HXC : Hid (X9.length ≤ 1048576) := by unfold Hid; rw [HXE.out]; exact HCL.out
          clear hnil9 HXQ
          go_wp2_with fail
          refine (Frm.refput_any 3 ⟨by omega, by omega⟩ A9 X9.length c9 X9 wr HR9.out HN9.out HBY.out HXC.out).mono ?_
          rintro e20 w20 ⟨v20, rfl, hp20⟩
          obtain ⟨hown20, hb20⟩ := hp20
          obtain ⟨A20, c20, rfl, hc20, hnil20⟩ := own_slice hown20
          have hm20 : c20 ≤ maxLen := by
            obtain ⟨A21, c21, e21, -, -, h21⟩ := ownr_slice hown20
            injection e21 with e1 e2 e3
            subst e3
            exact h21
          have HRE : Hid (Row .u8 w20 w20.heap.size A20 (frame 3 X9).length (frame 3 X9)) := Row.of_own hown20
          have HBE := Lib.hid (HB9.out.bel.trans (hb20.mono HB9.out.bel.size))
          have HEND := Lib.hid (And.intro hnil20 (And.intro hc20 hm20))
          clear hown20 hb20 hnil20 hc20 hm20
          go_wp2
          go_ret
          exact ⟨_, rfl, A20, _, c20, rfl, by rw [← HXE.out]; exact HRE.out, HEND.out.1, HEND.out.2.1, HEND.out.2.2, HBE.out⟩
end Go.Proofs.Ytdgaaghkhkklpaa.Gf
