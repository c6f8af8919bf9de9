/- What the reference's Take of layer 4 returns, as a contract over the program. -/
import Derived.Test.YtjdhedjlilmolaaFrmT
import Derived.Test.YtjdhedjlilmolaaFrmP
namespace Go.Proofs.Ytjdhedjlilmolaa.Frm
open Go.RowKit Var Crc Slc
attribute [local go_sem ↓] Go.wp_at_zero Go.wp_at_succ

/-- What the reference's Take returns: the content is a part of what came in. -/
def RTakes (t : Int × List Int × Nat × Nat) (w : World) (e : Ending) (w' : World) : Prop :=
  ∃ A c, e = .returned (.tuple #[.int .u8 t.1, .slice A t.2.1.length c, .int .i64 (t.2.2.1 : Int), .int .i64 (t.2.2.2 : Int)]) ∧ Row .u8 w' w.heap.size A t.2.1.length t.2.1 ∧ Below w.heap.size w w'

set_option maxHeartbeats 3200000 in
set_option maxRecDepth 100000 in
theorem reftake_good (b o n c sz cnt f t al : Nat) (xs : List Int) (w : World) (hr : Row .u8 w w.heap.size (some ⟨b, o, none⟩) n xs) (hx : Byt xs) (hn : n ≤ 4398046511104) (hcap : n ≤ c) (hc' : c ≤ 9223372036854775807)
    (h1 : xs.getD 0 0 = 199) (hc2 : ¬ c = 2) (hk : take 0 0 (xs.drop 2) = (cnt, sz, 0)) (hsz : sz ≤ n - 2 ∧ 0 < sz) (hcnt : ¬ 1048576 < cnt) (hf : f = 2 + sz) (ht : t = f + cnt) (hal : al = t + 4) (htn : al ≤ n) :
    Calls Try.prog 11 #[.slice (some ⟨b, o, none⟩) n c] w (RTakes (took xs) w) := by
  have HR := Lib.hid hr
  have HX := Lib.hid hx
  have HK := Lib.hid hk
  have hlen := hr.len
  have hcell0 := (hr.cell_at (j := 0) (by omega))
  have hcell1 := (hr.cell_at (j := 1) (by omega))
  obtain ⟨_, _, e, hbw, hcell0⟩ := hcell0
  injection e with e
  injection e with e1 e2
  subst e1; subst e2
  obtain ⟨_, _, e, _, hcell1⟩ := hcell1
  injection e with e
  injection e with e1 e2
  subst e1; subst e2
  rw [Nat.add_zero, h1] at hcell0
  have hnb : ((n : Int) == 0) = false := beq_eq_false_iff_ne.2 (by omega)
  have hto : Hid (to_ xs = t) := by unfold Hid to_ from_; rw [hk]; simp only; omega
  have hfrom : Hid (from_ xs = f) := by unfold Hid from_; rw [hk]; simp only; omega
  have HR2 : Hid (Row .u8 w w.heap.size (some ⟨b, o + 2, none⟩) (n - 2) (xs.drop 2)) := by
    have := row_sub HR.out (lo := 2) (m := n - 2) (by omega)
    rwa [List.take_of_length_le (by simp; omega)] at this
  have HCH : Hid (frame (xs.getD 1 0) ((xs.drop f).take cnt) = xs.take al ↔ (xs.drop t).take 4 = byts 4 (sum (xs.take t))) := by
    have := check HX.out h1 (by omega) (by rw [hk]) (by rw [hto.out]; omega)
    rw [hto.out, hfrom.out, hk] at this
    rw [hal]
    exact this
  have HT : Hid (took xs = if ¬ frame (xs.getD 1 0) ((xs.drop f).take cnt) = xs.take al then (0, [], 0, 12) else (xs.getD 1 0, (xs.drop f).take cnt, al, 0)) := by
    unfold Hid took
    rw [if_neg (by omega), if_neg (by simp only [h1, ne_eq, not_true, not_false_iff]), if_neg (by omega), HK.out, if_neg (by simp), if_neg hcnt, hto.out, if_neg (by omega), hfrom.out, ← hal]
    by_cases h : (xs.drop t).take 4 = byts 4 (sum (xs.take t))
    · rw [if_neg (fun h' => h' h), if_neg (fun h' => h' (HCH.out.2 h))]
    · rw [if_pos h, if_pos (fun h' => h (HCH.out.1 h'))]
  have HRA : Hid (Row .u8 w w.heap.size (some ⟨b, o, none⟩) al (xs.take al)) := by
    have := row_sub HR.out (lo := 0) (m := al) (by omega)
    rwa [Nat.add_zero, List.drop_zero] at this
  have HRC : Hid (Row .u8 w w.heap.size (some ⟨b, o + f, none⟩) (t - f) ((xs.drop f).take cnt)) := by
    unfold Hid
    rw [show t - f = cnt by omega]
    exact row_sub HR.out (by omega)
  have HCL : Hid (((xs.drop f).take cnt).length = t - f) := HRC.out.len
  have hy := HX.out.getD 1
  have hcs : t - f ≤ 1048576 := by omega
  have hsum1 : IntKind.i64.wrap (2 + (sz : Int)) = (f : Int) := by rw [IntWalk.i64_in _ ⟨by omega, by omega⟩]; omega
  have hsum2 : IntKind.i64.wrap ((f : Int) + (cnt : Int)) = (t : Int) := by rw [IntWalk.i64_in _ ⟨by omega, by omega⟩]; omega
  have hconv : IntKind.i64.wrap (cnt : Int) = (cnt : Int) := IntWalk.i64_in _ ⟨by omega, by omega⟩
  have hw4 : IntKind.i64.wrap ((t : Int) + 4) = (al : Int) := by rw [IntWalk.i64_in _ ⟨by omega, by omega⟩]; omega
  have hw5 : IntKind.i64.wrap ((al : Int) - 4) = (t : Int) := by rw [IntWalk.i64_in _ ⟨by omega, by omega⟩]; omega
  have hcf : ¬ c = f := by omega
  have i1 : (0 : Int) ≤ (al : Int) := by omega
  have i2 : (t : Int) ≤ (c : Int) := by omega
  have i3 : (al : Int) ≤ (c : Int) := by omega
  have i5 : (f : Int) ≤ (t : Int) := by omega
  have i6 : (0 : Int) ≤ (f : Int) := by omega
  have i8 : (2 : Int) ≤ (n : Int) := by omega
  have i9 : (1 : Int) < (n : Int) := by omega
  have d1 : decide ((n : Int) < 2) = false := by simp; omega
  have d2 : decide ((1048576 : Int) < (cnt : Int)) = false := by simp; omega
  have d3 : decide ((n : Int) < (al : Int)) = false := by simp; omega
  have hale : al ≤ 4398046511104 := by omega
  have HFL : Hid ((frame (xs.getD 1 0) ((xs.drop f).take cnt)).length ≤ 4398046511104) := by
    unfold Hid
    have := put_len10 (n := ((xs.drop f).take cnt).length) (by rw [HCL.out]; omega)
    rw [frame_len, HCL.out]
    rw [HCL.out] at this
    omega
  have d4 : ¬ n < al := by omega
  clear hr hx hk h1 hf ht hsz hcnt hlen hal HCH
  go_enter Try.func11, Try.ntmps11
  go_wp2_with fail
  refine (Var.reftake_any (some ⟨b, o + 2, none⟩) (n - 2) (c - 2) w.heap.size (xs.drop 2) w HR2.out (HX.out.drop 2)).mono ?_
  rintro e1 w1 ⟨rfl, rfl⟩
  rw [HK.out]
  go_wp2_with fail
  generalize xs.getD 1 0 = y at *
  have HRC5 := Lib.hid (HRC.out).drew
  have m2 : w.drew.cell? ⟨b, o + 1, none⟩ = some (.int .u8 y) := hcell1
  clear hsum1 hsum2 hconv d1 d2 d3 hnb hcell0 hto hfrom HR2 HK hw4 hw5
  go_region_held3 (fun wx => wx.cell? ⟨b, o + 1, none⟩ = some (.int .u8 y)) (first | exact hcell1 | exact m3 | exact m4) (first
    | (go_at_call 9; refine (refput_any y hy (some ⟨b, o + f, none⟩) (t - f) (c - f) ((xs.drop f).take cnt) _ HRC5.out (fun h => by cases h) ((HX.out.drop f).take cnt) hcs).mono ?_; rintro r1 w5 ⟨v5, rfl, hown5, hb5⟩; obtain ⟨A5, c5, rfl, -, -⟩ := own_slice hown5; have m3 := (hb5.cell (p := ⟨b, o + 1, none⟩) hbw).trans m2; have HO5 := Lib.hid hown5; have HB5 := Lib.hid hb5; clear hown5 hb5)
    | (go_at_call 8; refine (same_any A5 (some ⟨b, o, none⟩) (frame y ((xs.drop f).take cnt)).length c5 al c _ w.heap.size (frame y ((xs.drop f).take cnt)) (xs.take al) _ HFL.out hale (Row.of_own HO5.out) (HRA.out.drew.below HB5.out)).mono ?_; rintro r2 w6 ⟨rfl, q, rfl⟩; have m4 : (w5.drewN q).cell? ⟨b, o + 1, none⟩ = some (.int .u8 y) := m3))
  have HBW : Hid (Below w.heap.size w (w5.drewN q)) := by
    have h := (Below.refl w.heap.size w).drew.trans HB5.out
    exact ⟨h.os, h.tape, h.output, h.size, h.block⟩
  have HRR := Lib.hid (HRC.out.below HBW.out)
  clear m2 m3 HRC5 HO5 HB5 HFL
  generalize w5.drewN q = w8 at *
  by_cases heq : frame y ((xs.drop f).take cnt) = xs.take al
  · have hdec : decide (frame y ((xs.drop f).take cnt) = xs.take al) = true := decide_eq_true heq
    have HT' := Lib.hid (HT.out.trans (if_neg (fun h => h heq)))
    rw [hdec]
    clear HT heq hdec
    go_wp2
    refine bodyPost_ret (results_tmp4 rfl _ _ _) rfl ?_
    rw [HT'.out]
    refine ⟨some ⟨b, o + f, none⟩, c - f, ?_, ?_, HBW.out⟩
    · simp only
      rw [HCL.out]
      rfl
    · simp only
      rw [HCL.out]
      exact HRR.out
  · have hdec : decide (frame y ((xs.drop f).take cnt) = xs.take al) = false := decide_eq_false heq
    have HT' := Lib.hid (HT.out.trans (if_pos heq))
    rw [hdec]
    clear HT heq hdec
    go_wp2
    refine bodyPost_ret (results_tmp4 rfl _ _ _) rfl ?_
    rw [HT'.out]
    exact ⟨none, 0, rfl, Row.none_, HBW.out⟩
end Go.Proofs.Ytjdhedjlilmolaa.Frm
