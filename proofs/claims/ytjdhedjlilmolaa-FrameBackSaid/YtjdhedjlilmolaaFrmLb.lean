/- The walk of layer 4's third law (FrameBack). -/
import Derived.Test.YtjdhedjlilmolaaFrmLp
import Derived.Test.YtjdhedjlilmolaaFrmV
import Derived.OwnWalk
namespace Go.Proofs.Ytjdhedjlilmolaa.Frm
open Go.RowKit Var Crc Slc

theorem Row_drewN {k : IntKind} {w : World} {B n : Nat} {A : Option Addr} {xs : List Int} (h : Row k w B A n xs) (q : Nat) : Row k (w.drewN q) B A n xs := h
theorem Below_drewN {w w' : World} {B : Nat} (h : Below B w w') (q : Nat) : Below B w (w'.drewN q) := ⟨h.os, h.tape, h.output, h.size, h.block⟩

theorem row_pre {k : IntKind} {w : World} {B b o n : Nat} {xs : List Int} (h : Row k w B (some ⟨b, o, none⟩) n xs) {m : Nat} (hm : m ≤ n) : Row k w B (some ⟨b, o, none⟩) m (xs.take m) := by
  have := row_sub h (lo := 0) (m := m) (by omega)
  rwa [Nat.add_zero, List.drop_zero] at this

set_option maxHeartbeats 3200000 in
set_option maxRecDepth 100000 in
theorem back_walk (k : Int) (hk : 0 ≤ k ∧ k ≤ 255) (A : Option Addr) (n c : Nat) (xs : List Int) (A' : Option Addr) (n' c' : Nat) (ys : List Int) (w : World) (hr : Row .u8 w w.heap.size A n xs) (hnil : A = none → c = 0) (hx : Byt xs)
    (hr' : Row .u8 w w.heap.size A' n' ys) (hnil' : A' = none → c' = 0) (hy : Byt ys) :
    Calls Try.prog 5 #[.int .u8 k, .slice A n c, .slice A' n' c'] w fun e w' => e = .returned (.bool true) ∧ Below w.heap.size w w' := by
  obtain ⟨i0, hi, hz0, hz1, hz2⟩ := info_parts Slc.info_u8
  have HR := Lib.hid hr
  have HX := Lib.hid hx
  have HN := Lib.hid hnil
  have HR' := Lib.hid hr'
  have HY := Lib.hid hy
  have HN' := Lib.hid hnil'
  have hlen := hr.len
  clear hr hx hnil hr' hy hnil'
  go_enter Try.func5, Try.ntmps5
  go_wp2_with fail
  refine (awake_any _).mono ?_
  rintro e1 w1 ⟨rfl, hb1⟩
  have HB1 := Lib.hid hb1
  clear hb1
  by_cases hbig : ¬ n ≤ 2000
  · have hd : decide ((2000 : Int) < (n : Int)) = true := by simp; omega
    go_wp2
    go_ret
    exact ⟨rfl, HB1.out⟩
  have hd : decide ((2000 : Int) < (n : Int)) = false := by simp; omega
  by_cases hbig' : ¬ n' ≤ 2000
  · have hd' : decide ((2000 : Int) < (n' : Int)) = true := by simp; omega
    go_wp2
    go_ret
    exact ⟨rfl, HB1.out⟩
  have hd' : decide ((2000 : Int) < (n' : Int)) = false := by simp; omega
  have HFB : Hid (Byt (frame k xs)) := frame_byt hk HX.out
  have HTF : Hid (took (frame k xs ++ ys) = (k, xs, (frame k xs).length, 0)) := took_frame (by omega)
  have HWF : Hid (wholly k (frame k xs) = (xs, 0)) := wholly_frame (by omega)
  have HCUT : Hid (∀ cut, cut < (frame k xs).length → took ((frame k xs).take cut) = (0, [], 0, 10)) := fun cut h => took_cut (by omega) h
  have hfl : (frame k xs).length ≤ 3000 ∧ 7 ≤ (frame k xs).length := by
    have h2 := put_len10 (n := xs.length) (by omega)
    have h3 := put_pos xs.length
    rw [frame_len]; omega
  go_wp2_with fail
  refine (Frm.put_any k hk A n c xs _ ((HR.out.below HB1.out).more HB1.out.size) HN.out HX.out (by omega)).mono ?_
  rintro e2 w2 ⟨v2, rfl, hown2, hb2⟩
  generalize frame k xs = fr at *
  obtain ⟨L, HL⟩ : ∃ L, Hid (fr.length = L) := ⟨_, Lib.hid rfl⟩
  rw [HL.out] at hown2 HTF HCUT hfl
  obtain ⟨A2, c2, rfl, hc2, hn2⟩ := own_slice hown2
  obtain ⟨g, rfl, hg⟩ := own_at hown2 (by omega)
  have hcm : c2 ≤ maxLen := by
    rcases hown2.2 with ⟨h, _⟩ | ⟨g1, cap, cur, hv, _, _, _, h, _⟩
    · cases h
    · injection hv with _ _ h3
      rw [h3]; exact h
  have HCM := Lib.hid hcm
  have R2 := Lib.hid (Row.of_own hown2)
  have HB2 := Lib.hid (HB1.out.trans (hb2.mono HB1.out.size))
  clear hown2 hb2 hn2 hcm
  have HO : Hid ((w2.alloc (.cells #[] 5)).ownsRow w2.heap.size 5 1 (.slice (some ⟨w2.heap.size, 0, none⟩) 0 0) 0 (([] : List Int).map (Value.int .u8))) := World.ownsRow_lit w2 #[] 0 (Nat.le_refl _) (Nat.zero_le _) rfl
  have HB0 : Hid (Below w2.heap.size w2 (w2.alloc (.cells #[] 5))) := (Below.refl _ _).alloc (Nat.le_refl _) _
  have hs2 := HB2.out.size
  go_wp2_with (at_builtin; first
    | (refine cat_own rfl (.tmp 39) (.tmp 40) 22 rfl w2.heap.size 5 i0 .u8 1 Try.underlying22 hi hz0 hz1 hz2 _ 0 [] rfl HO.out w2.heap.size (some ⟨g, 0, none⟩) L c2 fr rfl (fun h => by cases h) (R2.out.below HB0.out) (by omega) (by omega) (by simp) ?_; intro v3 w3 hown3 hb3; have HO3 := Lib.hid hown3; have HB3 := Lib.hid (HB0.out.trans hb3); clear hown3 hb3)
    | (refine cat_own rfl (.tmp 41) (.tmp 42) 22 rfl w2.heap.size 5 i0 .u8 1 Try.underlying22 hi hz0 hz1 hz2 _ (0 + L) ([] ++ fr) rfl HO3.out w.heap.size A' n' c' ys rfl HN'.out ((HR'.out.below HB2.out).below (HB3.out.mono hs2)) (by omega) (by omega) HB3.out.size ?_; intro v4 w4 hown4 hb4; have HO4 := Lib.hid hown4; have HB4 := Lib.hid (HB3.out.trans hb4); clear hown4 hb4))
  rw [Nat.zero_add, List.nil_append] at HO4
  have R2' := Lib.hid ((R2.out.below HB4.out).more HB4.out.size)
  have HW4 := Lib.hid (HB2.out.trans (HB4.out.mono hs2))
  have hs4 := HB4.out.size
  clear HO HB0 HO3 HB3 R2 HB4
  obtain ⟨A4, c4, rfl, hc4, hn4⟩ := own_slice HO4.out
  have hcm4 : c4 ≤ maxLen := by
    rcases HO4.out.2 with ⟨h, _⟩ | ⟨g1, cap, cur, hv, _, _, _, h, _⟩
    · injection h with _ _ h3
      rw [h3]; exact Nat.zero_le _
    · injection hv with _ _ h3
      rw [h3]; exact h
  have T5 := take_any A4 (L + n') c4 (fr ++ ys) w4 (Row.of_own HO4.out) hn4 (HFB.out.append HY.out) (by omega) hc4 hcm4
  rw [HTF.out] at T5
  clear hcm4 hc4 hn4 HO4
  refine T5.mono ?_
  rintro e5 w5 ⟨v5, rfl, hown5, hb5⟩
  obtain ⟨A5, c5, rfl, -, -⟩ := own_slice hown5
  have R2 := Lib.hid ((R2'.out.below hb5).more hb5.size)
  have R5 := Lib.hid (Row.of_own hown5)
  have HB5 := Lib.hid (HW4.out.trans (hb5.mono HW4.out.size))
  clear hown5 hb5 T5 R2' HW4
  simp only at R5 ⊢
  go_wp2_with fail
  have T6 := whole_any k (some ⟨g, 0, none⟩) L c2 fr w5 R2.out (fun h => by cases h) HFB.out (by omega) hc2 HCM.out
  rw [HWF.out] at T6
  refine T6.mono ?_
  rintro e6 w6 ⟨v6, rfl, hown6, hb6⟩
  obtain ⟨A6, c6, rfl, -, -⟩ := own_slice hown6
  have R2 := Lib.hid ((R2.out.below hb6).more hb6.size)
  have R5 := Lib.hid ((R5.out.below hb6).more hb6.size)
  have R6 := Lib.hid (Row.of_own hown6)
  have HB6 := Lib.hid (HB5.out.trans (hb6.mono HB5.out.size))
  have RX := Lib.hid (HR.out.below HB6.out)
  clear hown6 hb6 T6 HB5
  simp only at R6 ⊢
  rw [hlen] at R5 R6 ⊢
  go_wp2_with fail
  refine (same_yes A5 A n c5 c _ _ xs _ (by omega) R5.out RX.out).mono ?_
  rintro e7 w7 ⟨rfl, q, rfl⟩
  go_wp2_with fail
  refine (same_yes A6 A n c6 c w6.heap.size w.heap.size xs (w6.drewN q) (by omega) R6.out RX.out).mono ?_
  rintro e8 w8 ⟨rfl, q8, rfl⟩
  have R8 : Hid (Row .u8 ((w6.drewN q).drewN q8) w6.heap.size (some ⟨g, 0, none⟩) L fr) := R2.out
  have HB8 : Hid (Below w.heap.size w ((w6.drewN q).drewN q8)) := Below_drewN (Below_drewN HB6.out q) q8
  have hs8 : w6.heap.size = ((w6.drewN q).drewN q8).heap.size := rfl
  rw [hs8] at R8
  clear hs8 R2 R5 R6 RX HB6
  generalize (w6.drewN q).drewN q8 = w9 at *
  go_wp2_with fail
  have hw6 : IntKind.i64.wrap ((L : Int) - 6) = (L : Int) - 6 := IntWalk.i64_in _ ⟨by omega, by omega⟩
  clear hd hd' HR HX HN HR' HY HN' HB1 HWF HTF HB2 hg hs2 hs4
  go_loopw [90] (fun a wr => ∃ i : Nat, i ≤ L ∧ a = .int .i64 (i : Int) ∧ Hid (Row .u8 wr wr.heap.size (some ⟨g, 0, none⟩) L fr) ∧ Hid (Below w.heap.size w wr)) (fun a _ => L - (intOf a).toNat)
  case atStart => exact ⟨0, Nat.zero_le _, rfl, R8, HB8⟩
  case round =>
    obtain ⟨i, hle, rfl, HRW, HBL⟩ := hrel
    by_cases hlt : i < L
    · by_cases h12 : 12 < i
      · have hd1 : decide ((12 : Int) < (i : Int)) = true := by simp; omega
        by_cases h6 : (i : Int) < (L : Int) - 6
        · have hd2 : decide ((i : Int) < (L : Int) - 6) = true := by simp only [h6, decide_true]
          go_wp2
          go_roundw
          case rel => exact ⟨i + 1, by omega, by go_num, HRW, HBL⟩
          case measure => simp [intOf]; omega
        · have hd2 : decide ((i : Int) < (L : Int) - 6) = false := by simp only [h6, decide_false]
          have T := take_any (some ⟨g, 0, none⟩) i c2 (fr.take i) wr (row_pre HRW.out (by omega)) (fun h => by cases h) (HFB.out.take i) (by omega) (by omega) HCM.out
          rw [HCUT.out i hlt] at T
          go_wp2_with fail
          refine T.mono ?_
          rintro e9 wx ⟨v9, rfl, -, hb9⟩
          have HRX := Lib.hid ((HRW.out.below hb9).more hb9.size)
          have HBX := Lib.hid (HBL.out.trans (hb9.mono HBL.out.size))
          clear T hb9 HRW HBL
          go_wp2
          go_roundw
          case rel => exact ⟨i + 1, by omega, by go_num, HRX, HBX⟩
          case measure => simp [intOf]; omega
      · have hd1 : decide ((12 : Int) < (i : Int)) = false := by simp; omega
        have T := take_any (some ⟨g, 0, none⟩) i c2 (fr.take i) wr (row_pre HRW.out (by omega)) (fun h => by cases h) (HFB.out.take i) (by omega) (by omega) HCM.out
        rw [HCUT.out i hlt] at T
        go_wp2_with fail
        refine T.mono ?_
        rintro e9 wx ⟨v9, rfl, -, hb9⟩
        have HRX := Lib.hid ((HRW.out.below hb9).more hb9.size)
        have HBX := Lib.hid (HBL.out.trans (hb9.mono HBL.out.size))
        clear T hb9 HRW HBL
        go_wp2
        go_roundw
        case rel => exact ⟨i + 1, by omega, by go_num, HRX, HBX⟩
        case measure => simp [intOf]; omega
    · obtain rfl : i = L := by omega
      have hsl := HBL.out.size
      go_wp2_with (first
        | (at_make; refine wpList_make_full _ rfl _ _ 22 rfl w.heap.size 5 i0 (.int .u8 0) 1 Try.underlying22 hi hz0 hz1 _ _ _ _ 1048577 rfl rfl rfl rfl (by rw [hz2]; omega) (by unfold maxLen; omega) hsl ?_; intro w10 hown10 hg10; have HB10 := Lib.hid (HBL.out.trans ((Below.refl w.heap.size wr).grown hg10 hsl (fun j hj => by cases hj))); clear hown10 hg10)
        | (go_at_call 7; refine (put_much k _ 1048577 1048577 _ (by omega)).mono ?_; rintro e11 w11 ⟨rfl, rfl⟩))
      go_ret
      exact ⟨rfl, HB10.out⟩
end Go.Proofs.Ytjdhedjlilmolaa.Frm
