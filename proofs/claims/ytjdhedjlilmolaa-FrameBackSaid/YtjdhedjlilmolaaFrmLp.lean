/- The walk of layer 4's first law (FramePuts), and the chapter's example. -/
import Derived.Test.YtjdhedjlilmolaaFrmP
namespace Go.Proofs.Ytjdhedjlilmolaa.Frm
open Go.RowKit Var Crc Slc

theorem frame_one : ∃ y : List Int, frame 1 [] = [199, 1, 0] ++ y ∧ y.length = 4 := ⟨byts 4 (sum (head 1 [])), by simp [frame, head, put_last], byts_len _ _⟩

set_option maxHeartbeats 800000 in
set_option maxRecDepth 100000 in
theorem awake_any (w : World) : Calls Try.prog 6 #[] w fun e w' => e = .returned (.bool true) ∧ Below w.heap.size w w' := by
  go_enter Try.func6, Try.ntmps6
  go_wp2_with fail
  refine (Frm.put_any 1 (by omega) none 0 0 [] w Row.none_ (fun _ => rfl) (fun x hx => by simp at hx) (by omega)).mono ?_
  rintro e1 w1 ⟨v1, rfl, hown1, hb1⟩
  obtain ⟨y, hy, hyl⟩ := frame_one
  have hl : (frame 1 []).length = 7 := by rw [hy]; simp [hyl]
  rw [hl, hy] at hown1
  obtain ⟨A1, c1, rfl, -, -⟩ := own_slice hown1
  obtain ⟨g, rfl, -⟩ := own_at hown1 (by omega)
  have m0 : w1.cell? ⟨g, 0, none⟩ = some (.int .u8 199) := by rw [hown1.cellAt 0 (by omega)]; rfl
  have m1 : w1.cell? ⟨g, 1, none⟩ = some (.int .u8 1) := by rw [hown1.cellAt 1 (by omega)]; rfl
  have m2 : w1.cell? ⟨g, 2, none⟩ = some (.int .u8 0) := by rw [hown1.cellAt 2 (by omega)]; rfl
  have HB1 := Lib.hid hb1
  clear hown1 hb1 hy hyl hl
  go_wp2
  go_ret
  exact ⟨rfl, HB1.out⟩

set_option maxHeartbeats 800000 in
set_option maxRecDepth 100000 in
theorem puts_walk (k : Int) (hk : 0 ≤ k ∧ k ≤ 255) (A : Option Addr) (n c : Nat) (xs : List Int) (w : World) (hr : Row .u8 w w.heap.size A n xs) (hnil : A = none → c = 0) (hx : Byt xs) :
    Calls Try.prog 3 #[.int .u8 k, .slice A n c] w fun e w' => e = .returned (.bool true) ∧ Below w.heap.size w w' := by
  have HR := Lib.hid hr
  have HX := Lib.hid hx
  have HN := Lib.hid hnil
  clear hr hx hnil
  go_enter Try.func3, Try.ntmps3
  go_wp2_with fail
  refine (awake_any _).mono ?_
  rintro e1 w1 ⟨rfl, hb1⟩
  have HB1 := Lib.hid hb1
  clear hb1
  by_cases hbig : n ≤ 3000
  · go_wp2_with fail
    refine (Frm.put_any k hk A n c xs _ ((HR.out.below HB1.out).more HB1.out.size) HN.out HX.out (by omega)).mono ?_
    rintro e2 w2 ⟨v2, rfl, hown2, hb2⟩
    obtain ⟨A2, c2, rfl, -, -⟩ := own_slice hown2
    have HO2 := Lib.hid hown2
    have HB2 := Lib.hid (HB1.out.trans (hb2.mono HB1.out.size))
    clear hown2 hb2
    go_wp2_with fail
    refine (Frm.refput_any k hk A n c xs _ ((HR.out.below HB2.out).more HB2.out.size) HN.out HX.out (by omega)).mono ?_
    rintro e3 w3 ⟨v3, rfl, hown3, hb3⟩
    obtain ⟨A3, c3, rfl, -, -⟩ := own_slice hown3
    have R2 := Lib.hid ((Row.of_own HO2.out).below hb3)
    have R3 := Lib.hid (Row.of_own hown3)
    have HB3 := Lib.hid (HB2.out.trans (hb3.mono HB2.out.size))
    have hfl : (frame k xs).length ≤ 4398046511104 := by
      have h1 := HR.out.len
      have h2 := put_len10 (n := xs.length) (by omega)
      rw [frame_len]; omega
    clear hown3 hb3
    go_wp2_with fail
    refine (same_yes A2 A3 (frame k xs).length c2 c3 _ _ (frame k xs) _ hfl R2.out R3.out).mono ?_
    rintro e4 w4 ⟨rfl, q, rfl⟩
    go_wp2
    go_ret
    exact ⟨rfl, ⟨HB3.out.os, HB3.out.tape, HB3.out.output, HB3.out.size, HB3.out.block⟩⟩
  · go_wp2
    go_ret
    exact ⟨rfl, HB1.out⟩
end Go.Proofs.Ytjdhedjlilmolaa.Frm
