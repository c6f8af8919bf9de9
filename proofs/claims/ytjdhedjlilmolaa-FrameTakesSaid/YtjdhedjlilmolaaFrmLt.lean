/- The walk of layer 4's second law (FrameTakes). -/
import Derived.Test.YtjdhedjlilmolaaFrmLp
import Derived.Test.YtjdhedjlilmolaaFrmV
namespace Go.Proofs.Ytjdhedjlilmolaa.Frm
open Go.RowKit Var Crc Slc

theorem took_len {b : List Int} : (took b).2.1.length ≤ b.length := by
  unfold took
  repeat' split
  all_goals simp <;> omega
theorem wholly_len {k : Int} {b : List Int} : (wholly k b).1.length ≤ b.length := by
  have := took_len (b := b)
  unfold wholly
  repeat' split
  all_goals simp <;> omega

set_option maxHeartbeats 1600000 in
set_option maxRecDepth 100000 in
theorem takes_walk (k : Int) (A : Option Addr) (n c : Nat) (xs : List Int) (w : World) (hr : Row .u8 w w.heap.size A n xs) (hnil : A = none → c = 0) (hx : Byt xs) (hcap : n ≤ c) (hc : c ≤ maxLen) :
    Calls Try.prog 4 #[.int .u8 k, .slice A n c] w fun e w' => e = .returned (.bool true) ∧ Below w.heap.size w w' := by
  have HR := Lib.hid hr
  have HX := Lib.hid hx
  have HN := Lib.hid hnil
  have HC := Lib.hid hc
  have hlen := hr.len
  clear hr hx hnil hc
  go_enter Try.func4, Try.ntmps4
  go_wp2_with fail
  refine (awake_any _).mono ?_
  rintro e1 w1 ⟨rfl, hb1⟩
  have HB1 := Lib.hid hb1
  clear hb1
  by_cases hbig : n ≤ 3000
  · go_wp2_with fail
    have hl1 := took_len (b := xs)
    have hl2 := wholly_len (k := k) (b := xs)
    have T2 := take_any A n c xs _ ((HR.out.below HB1.out).more HB1.out.size) HN.out HX.out (by omega) hcap HC.out
    refine T2.mono ?_
    rintro e2 w2 ⟨v2, rfl, hown2, hb2⟩
    obtain ⟨A2, c2, rfl, -, -⟩ := own_slice hown2
    have R2 := Lib.hid (Row.of_own hown2)
    have HB2 := Lib.hid (HB1.out.trans (hb2.mono HB1.out.size))
    clear hown2 hb2 T2
    go_wp2_with fail
    have T3 := reftake_any A n c xs _ ((HR.out.below HB2.out).more HB2.out.size) HX.out (by omega) hcap HC.out
    refine T3.mono ?_
    rintro e3 w3 ⟨A3, c3, rfl, hrow3, hb3⟩
    have R2 := Lib.hid ((R2.out.below hb3).more hb3.size)
    have R3 := Lib.hid (hrow3.more hb3.size)
    have HB3 := Lib.hid (HB2.out.trans (hb3.mono HB2.out.size))
    clear hrow3 hb3 T3
    go_wp2_with fail
    have T4 := whole_any k A n c xs _ ((HR.out.below HB3.out).more HB3.out.size) HN.out HX.out (by omega) hcap HC.out
    refine T4.mono ?_
    rintro e4 w4 ⟨v4, rfl, hown4, hb4⟩
    obtain ⟨A4, c4, rfl, -, -⟩ := own_slice hown4
    have R2 := Lib.hid ((R2.out.below hb4).more hb4.size)
    have R3 := Lib.hid ((R3.out.below hb4).more hb4.size)
    have R4 := Lib.hid (Row.of_own hown4)
    have HB4 := Lib.hid (HB3.out.trans (hb4.mono HB3.out.size))
    clear hown4 hb4 T4
    go_wp2_with fail
    have T5 := refwhole_any k A n c xs _ ((HR.out.below HB4.out).more HB4.out.size) HX.out (by omega) hcap HC.out
    refine T5.mono ?_
    rintro e5 w5 ⟨A5, c5, rfl, hrow5, hb5⟩
    have R2 := Lib.hid ((R2.out.below hb5).more hb5.size)
    have R3 := Lib.hid ((R3.out.below hb5).more hb5.size)
    have R4 := Lib.hid ((R4.out.below hb5).more hb5.size)
    have R5 := Lib.hid (hrow5.more hb5.size)
    have HB5 := Lib.hid (HB4.out.trans (hb5.mono HB4.out.size))
    clear hrow5 hb5 T5
    generalize took xs = t at *
    generalize wholly k xs = u at *
    obtain ⟨t1, t2, t3, t4⟩ := t
    obtain ⟨u1, u2⟩ := u
    simp only at hl1 hl2 R2 R3 R4 R5 ⊢
    go_wp2_with fail
    refine (same_yes A2 A3 t2.length c2 c3 _ _ t2 _ (by omega) R2.out R3.out).mono ?_
    rintro e6 w6 ⟨rfl, q, rfl⟩
    go_wp2_with fail
    refine (same_yes A4 A5 u1.length c4 c5 w5.heap.size w5.heap.size u1 (w5.drewN q) (by omega) R4.out R5.out).mono ?_
    rintro e7 w7 ⟨rfl, q7, rfl⟩
    go_wp2
    go_ret
    exact ⟨rfl, ⟨HB5.out.os, HB5.out.tape, HB5.out.output, HB5.out.size, HB5.out.block⟩⟩
  · go_wp2
    go_ret
    exact ⟨rfl, HB1.out⟩
end Go.Proofs.Ytjdhedjlilmolaa.Frm
