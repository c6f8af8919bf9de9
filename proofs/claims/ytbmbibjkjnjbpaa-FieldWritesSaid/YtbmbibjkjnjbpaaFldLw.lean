/- FieldWrites as a walk: it returns true, whatever fields came in. -/
import Derived.Test.YtbmbibjkjnjbpaaFldL
import Derived.Test.YtbmbibjkjnjbpaaSame
namespace Go.Proofs.Ytbmbibjkjnjbpaa.Fld
open Go.RowKit Var

set_option maxHeartbeats 1600000 in
set_option maxRecDepth 100000 in
theorem writes_walk (A : Option Addr) (n c : Nat) (fs : List F) (w : World) (h : FRow w w.heap.size A n fs) (hn : n ≤ maxLen) :
    Calls Try.prog 3 #[.slice A n c] w fun e w' => e = .returned (.bool true) ∧ Below w.heap.size w w' := by
  have H := Lib.hid h
  have HN := Lib.hid hn
  clear h hn
  go_enter Try.func3, Try.ntmps3
  go_wp2_with fail
  refine (awake_any _).mono ?_
  rintro e1 w1 ⟨rfl, hb1⟩
  have H1 := Lib.hid (H.out.below hb1)
  have HB1 := Lib.hid hb1
  clear hb1
  go_wp2_with fail
  have H1' : Hid (FRow w1 w1.heap.size A n fs) := by
    unfold Hid
    exact H1.out.more HB1.out.size
  refine (small_any A n c fs _ H1'.out HN.out).mono ?_
  rintro e2 w2 ⟨rfl, hb2⟩
  have H2 := Lib.hid (H1'.out.below hb2)
  have HB2 := Lib.hid (HB1.out.trans (hb2.mono HB1.out.size))
  have HS2 := Lib.hid hb2.size
  clear hb2
  cases hsm : smallF fs with
  | false =>
    go_wp2
    go_ret
    exact ⟨rfl, HB2.out⟩
  | true =>
    go_wp2_with fail
    refine (written_any A n c fs _ (H2.out.more HS2.out) hsm).mono ?_
    rintro e3 w3 ⟨v1, v2, rfl, ho1, ho2, hb3⟩
    obtain ⟨A1, c1, rfl, hn1⟩ := own_nil ho1
    obtain ⟨A2, c2, rfl, hn2⟩ := own_nil ho2
    have HL : Hid ((enc fs).length ≤ 15500) := by have := enc_small H.out hsm fs.length; rw [List.take_length] at this; exact this
    have HB3 := Lib.hid (HB2.out.trans (hb3.mono HB2.out.size))
    have HO1 := Lib.hid ho1
    have HO2 := Lib.hid ho2
    clear ho1 ho2 hb3 hn1 hn2
    go_wp2_with fail
    refine (number_nil 5 (by omega) _).mono ?_
    rintro e4 w4 ⟨rfl, hb4⟩
    have HB4 := Lib.hid hb4
    clear hb4
    go_wp2_with fail
    refine (bytes_nil A1 _ c1 (by have := HL.out; omega) _).mono ?_
    rintro e5 w5 ⟨rfl, hb5⟩
    have HB5 := Lib.hid (HB4.out.trans (hb5.mono HB4.out.size))
    clear hb5
    go_wp2_with fail
    refine (same_yes A1 A2 _ c1 c2 _ _ (enc fs) _ (by have := HL.out; omega) ((Row.of_own HO1.out).below HB5.out) ((Row.of_own HO2.out).below HB5.out)).mono ?_
    rintro e6 w6 ⟨rfl, q, rfl⟩
    go_wp2_with fail
    refine (out_nil _).mono ?_
    rintro e7 w7 ⟨rfl, rfl⟩
    go_wp2
    go_ret
    have hb := HB3.out.trans (HB5.out.mono HB3.out.size)
    exact ⟨rfl, ⟨hb.os, hb.tape, hb.output, hb.size, hb.block⟩⟩
end Go.Proofs.Ytbmbibjkjnjbpaa.Fld
