/- What the reference's Put of layer 4 returns, and the reference's Same of any two slices, as contracts over the program. -/
import Derived.Test.YtjdhedjlilmolaaFrmW
import Derived.Test.YtjdhedjlilmolaaSame
namespace Go.Proofs.Ytjdhedjlilmolaa.Frm
open Go.RowKit Var Crc Slc

set_option maxHeartbeats 800000 in
set_option maxRecDepth 100000 in
theorem refput_any (k : Int) (hk : 0 ≤ k ∧ k ≤ 255) (A : Option Addr) (n c : Nat) (xs : List Int) (w : World) (hr : Row .u8 w w.heap.size A n xs) (hnil : A = none → c = 0) (hx : Byt xs) (hn : n ≤ 1048576) :
    Calls Try.prog 9 #[.int .u8 k, .slice A n c] w fun e w' => ∃ v, e = .returned v ∧ Puts k xs w v w' := by
  obtain ⟨i0, hi, hz0, hz1, hz2⟩ := info_parts Slc.info_u8
  have HR := Lib.hid hr
  have HX := Lib.hid hx
  have HN := Lib.hid hnil
  have hlen := hr.len
  clear hr hx hnil
  have hL := put_len10 (n := n) (by omega)
  go_enter Try.func9, Try.ntmps9
  go_wp2_with fail
  have HO1 := Lib.hid (World.ownsRow_lit (e := 5) (size := 1) (base := w.heap.size) w #[.int .u8 199, .int .u8 k] 2 (Nat.le_refl _) (by unfold maxLen; omega) rfl)
  have HB1 := Lib.hid ((Below.refl w.heap.size w).alloc (Nat.le_refl _) (.cells #[.int .u8 199, .int .u8 k] 5))
  generalize hw1 : w.alloc (.cells #[.int .u8 199, .int .u8 k] 5) = w1 at *
  have hs1 : w.heap.size + 1 = w1.heap.size := by rw [← hw1]; simp
  clear hw1
  refine (Var.refput_any n (by omega) _).mono ?_
  rintro e2 w2 ⟨v2, rfl, hown2, hb2⟩
  obtain ⟨A2, c2, rfl, -, hnil2⟩ := own_slice hown2
  have HO2 := Lib.hid hown2
  have HB2 := Lib.hid hb2
  have HN2 := Lib.hid hnil2
  have HO1' := Lib.hid (own_below HO1.out hb2)
  have hs2 := hb2.size
  clear hown2 hb2 hnil2
  go_wp2_with (at_builtin; first
    | (refine cat_own rfl (.tmp 8) (.tmp 12) 22 rfl w.heap.size 5 i0 .u8 1 Try.underlying22 hi hz0 hz1 hz2 _ 2 [199, k] rfl HO1'.out _ A2 (put n).length c2 (put n) rfl HN2.out (Row.of_own HO2.out) (by omega) (by omega) (by omega) ?_; intro v3 w3 hown3 hb3; have HO3 := Lib.hid hown3; have HB3 := Lib.hid hb3; clear hown3 hb3)
    | (refine cat_own rfl (.tmp 14) (.tmp 15) 22 rfl w.heap.size 5 i0 .u8 1 Try.underlying22 hi hz0 hz1 hz2 _ (2 + (put n).length) ([199, k] ++ put n) rfl HO3.out w.heap.size A n c xs rfl HN.out (((HR.out.below HB1.out).below (HB2.out.mono (by omega))).below HB3.out) (by omega) (by omega) (by have := HB3.out.size; omega) ?_; intro v4 w4 hown4 hb4; have HO4 := Lib.hid hown4; have HB4 := Lib.hid hb4; clear hown4 hb4))
  have hh : [199, k] ++ put n ++ xs = head k xs := by simp [head, hlen]
  have ht : 2 + (put n).length + n = (head k xs).length := by rw [head_len, hlen]
  rw [hh, ht] at HO4
  clear hh ht
  obtain ⟨A4, c4, rfl, -, -⟩ := own_slice HO4.out
  have hs3 := HB3.out.size
  have hs4 := HB4.out.size
  have HHB : Hid (Byt (head k xs)) := head_byt hk HX.out
  have hhl : (head k xs).length ≤ 2000000 := by rw [head_len, hlen]; omega
  have HF : Hid (frame k xs = head k xs ++ byts 4 (sum (head k xs))) := rfl
  have HFL : Hid ((frame k xs).length = (head k xs).length + 4) := by unfold Hid; rw [frame_len, head_len]
  generalize head k xs = hd at *
  refine (refsum_any A4 hd.length c4 _ hd _ (Row.of_own HO4.out) HHB.out.crc (by omega)).mono ?_
  rintro e5 w5 ⟨rfl, rfl⟩
  go_wp2_with fail
  refine (refbytes_any (sum hd) (sum_lt hd) _).mono ?_
  rintro e6 w6 ⟨v6, rfl, hown6, hb6⟩
  obtain ⟨A6, c6, rfl, -, hnil6⟩ := own_slice hown6
  have HO4' := Lib.hid (own_below HO4.out hb6)
  have HO6 := Lib.hid hown6
  have HB6 := Lib.hid hb6
  have HN6 := Lib.hid hnil6
  have hs6 := hb6.size
  clear hown6 hb6 hnil6
  go_wp2_with (at_builtin; refine cat_own rfl (.tmp 17) (.tmp 20) 22 rfl w.heap.size 5 i0 .u8 1 Try.underlying22 hi hz0 hz1 hz2 _ hd.length hd rfl HO4'.out _ A6 4 c6 (byts 4 (sum hd)) rfl HN6.out (Row.of_own HO6.out) (by omega) (by omega) (by omega) ?_; intro v7 w7 hown7 hb7; have HO7 := Lib.hid hown7; have HB7 := Lib.hid hb7; clear hown7 hb7)
  go_ret
  refine ⟨v7, rfl, ?_, ?_⟩
  · rw [HFL.out, HF.out]; exact HO7.out
  · exact HB1.out.trans ((HB2.out.mono (by omega)).trans (HB3.out.trans (HB4.out.trans ((HB6.out.mono (by omega)).trans HB7.out))))

set_option maxHeartbeats 800000 in
set_option maxRecDepth 100000 in
/-- Any two slices. -/
theorem same_any (A A' : Option Addr) (n c n' c' B B' : Nat) (xs ys : List Int) (w : World) (hn : n ≤ 4398046511104) (hn' : n' ≤ 4398046511104) (h1 : Row .u8 w B A n xs) (h2 : Row .u8 w B' A' n' ys) :
    Calls Try.prog 8 #[.slice A n c, .slice A' n' c'] w fun e w' => e = .returned (.bool (decide (xs = ys))) ∧ ∃ q, w' = w.drewN q := by
  have H1 := Lib.hid h1
  have H2 := Lib.hid h2
  have l1 := h1.len
  have l2 := h2.len
  clear h1 h2
  by_cases hne : n = n'
  · subst hne
    go_enter Try.func8, Try.ntmps8
    go_wp2
    go_loopw [5] (fun i wr => ∃ k q : Nat, k ≤ n ∧ i = .int .i64 (k : Int) ∧ Hid (xs.take k = ys.take k) ∧ Hid (wr = w.drewN q)) (fun i _ => n - (intOf i).toNat)
    case atStart => exact ⟨0, 0, Nat.zero_le _, rfl, rfl, rfl⟩
    case round =>
      obtain ⟨k, q, hk, rfl, HT, hw⟩ := hrel
      obtain rfl := hw.out
      clear hw
      by_cases hlt : k < n
      · obtain ⟨b, o, rfl, _, hc1⟩ := H1.out.cell_at hlt
        obtain ⟨b', o', rfl, _, hc2⟩ := H2.out.cell_at hlt
        have hx : xs.getD k 0 = xs[k]'(by omega) := by simp [List.getD, show k < xs.length by omega]
        have hy : ys.getD k 0 = ys[k]'(by omega) := by simp [List.getD, show k < ys.length by omega]
        by_cases heq : xs.getD k 0 = ys.getD k 0
        · have HT2 : Hid (xs.take (k + 1) = ys.take (k + 1)) := by
            unfold Hid
            rw [List.take_succ_eq_append_getElem (by omega), List.take_succ_eq_append_getElem (by omega), HT.out, ← hx, ← hy, heq]
          rw [← heq] at hc2
          clear hx hy heq
          go_wp2
          go_quiet (fail)
          go_wp2
          go_roundw
          case rel => exact ⟨k + 1, _, by omega, by go_num, HT2, by unfold Hid; rfl⟩
          case measure => simp [intOf]; omega
        · have HNE : Hid (decide (xs = ys) = false) := by
            unfold Hid
            refine decide_eq_false fun h => heq ?_
            rw [h]
          have hnb : (xs.getD k 0 == ys.getD k 0) = false := beq_eq_false_iff_ne.2 heq
          have hnb2 : (xs.getD k 0 != ys.getD k 0) = true := by rw [bne, hnb]; rfl
          generalize xs.getD k 0 = x at *
          generalize ys.getD k 0 = y at *
          clear hx hy heq
          go_wp2
          go_quiet (fail)
          go_wp2
          go_ret
          exact ⟨by rw [HNE.out]; rfl, q + nq, World.drewN_drewN _ _ _⟩
      · have HY : Hid (decide (xs = ys) = true) := by
          unfold Hid
          have h := HT.out
          rw [List.take_of_length_le (by omega), List.take_of_length_le (by omega)] at h
          exact decide_eq_true h
        go_wp2
        go_ret
        exact ⟨by rw [HY.out]; rfl, _, rfl⟩
  · have HNE : Hid (decide (xs = ys) = false) := by
      unfold Hid
      refine decide_eq_false fun h => hne ?_
      rw [← l1, ← l2, h]
    have hb : ((n : Int) == (n' : Int)) = false := beq_eq_false_iff_ne.2 (by omega)
    have hb2 : ((n : Int) != (n' : Int)) = true := by rw [bne, hb]; rfl
    clear hne
    go_enter Try.func8, Try.ntmps8
    go_wp2
    go_ret
    exact ⟨by rw [HNE.out]; rfl, 0, rfl⟩
end Go.Proofs.Ytjdhedjlilmolaa.Frm
