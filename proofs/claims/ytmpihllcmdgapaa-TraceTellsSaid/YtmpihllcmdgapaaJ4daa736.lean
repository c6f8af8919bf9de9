/- Lemmas that the proof stands on, in build order: FrmP TrcP FrmT FrmU FrmV SmpN SmpJ. -/
import Derived.Deep.QuietTactic
import Derived.BigQuiet
import Derived.Deep.RegionHeld3
import Derived.ScopeJumps
import Derived.Deep.DrawnRows
import Derived.Test.YtmpihllcmdgapaaJ2b065c4
import Derived.Test.YtmpihllcmdgapaaJ349813e
/- What the reference's Put of layer 4 returns, and the reference's Same of any two slices, as contracts over the program. -/
namespace Go.Proofs.Ytmpihllcmdgapaa.Frm
open Go.RowKit Var Crc Slc

set_option maxHeartbeats 800000 in
set_option maxRecDepth 100000 in
theorem refput_any (k : Int) (hk : 0 ≤ k ∧ k ≤ 255) (A : Option Addr) (n c : Nat) (xs : List Int) (w : World) (hr : Row .u8 w w.heap.size A n xs) (hnil : A = none → c = 0) (hx : Byt xs) (hn : n ≤ 1048576) :
    Calls Try.prog 24 #[.int .u8 k, .slice A n c] w fun e w' => ∃ v, e = .returned v ∧ Puts k xs w v w' := by
  obtain ⟨i0, hi, hz0, hz1, hz2⟩ := info_parts Slc.info_u8
  have HR := Lib.hid hr
  have HX := Lib.hid hx
  have HN := Lib.hid hnil
  have hlen := hr.len
  clear hr hx hnil
  have hL := put_len10 (n := n) (by omega)
  go_enter Try.func24, Try.ntmps24
  go_wp2_with fail
  have HO1 := Lib.hid (World.ownsRow_lit (e := 5) (size := 1) (base := w.heap.size) w #[.int .u8 199, .int .u8 k] 2 (Nat.le_refl _) (by unfold maxLen; omega) rfl)
  have HB1 := Lib.hid ((Below.refl w.heap.size w).alloc (Nat.le_refl _) (.cells #[.int .u8 199, .int .u8 k] 5))
  generalize hw1 : w.alloc (.cells #[.int .u8 199, .int .u8 k] 5) = w1 at *
  have hs1 : w.heap.size + 1 = w1.heap.size := by rw [← hw1]; simp
  clear hw1
  refine (Var.refput_any n (by omega) _).mono ?_
  rintro e2 w2 ⟨v2, rfl, hown2, hb2⟩
  obtain ⟨A2, c2, rfl, -, hnil2⟩ := own_slice hown2
  have HO2 := Lib.hid hown2
  have HB2 := Lib.hid hb2
  have HN2 := Lib.hid hnil2
  have HO1' := Lib.hid (own_below HO1.out hb2)
  have hs2 := hb2.size
  clear hown2 hb2 hnil2
  go_wp2_with (at_builtin; first
    | (refine cat_own rfl (.tmp 8) (.tmp 12) 23 rfl w.heap.size 5 i0 .u8 1 Try.underlying23 hi hz0 hz1 hz2 _ 2 [199, k] rfl HO1'.out _ A2 (put n).length c2 (put n) rfl HN2.out (Row.of_own HO2.out) (by omega) (by omega) (by omega) ?_; intro v3 w3 hown3 hb3; have HO3 := Lib.hid hown3; have HB3 := Lib.hid hb3; clear hown3 hb3)
    | (refine cat_own rfl (.tmp 14) (.tmp 15) 23 rfl w.heap.size 5 i0 .u8 1 Try.underlying23 hi hz0 hz1 hz2 _ (2 + (put n).length) ([199, k] ++ put n) rfl HO3.out w.heap.size A n c xs rfl HN.out (((HR.out.below HB1.out).below (HB2.out.mono (by omega))).below HB3.out) (by omega) (by omega) (by have := HB3.out.size; omega) ?_; intro v4 w4 hown4 hb4; have HO4 := Lib.hid hown4; have HB4 := Lib.hid hb4; clear hown4 hb4))
  have hh : [199, k] ++ put n ++ xs = head k xs := by simp [head, hlen]
  have ht : 2 + (put n).length + n = (head k xs).length := by rw [head_len, hlen]
  rw [hh, ht] at HO4
  clear hh ht
  obtain ⟨A4, c4, rfl, -, -⟩ := own_slice HO4.out
  have hs3 := HB3.out.size
  have hs4 := HB4.out.size
  have HHB : Hid (Byt (head k xs)) := head_byt hk HX.out
  have hhl : (head k xs).length ≤ 2000000 := by rw [head_len, hlen]; omega
  have HF : Hid (frame k xs = head k xs ++ byts 4 (sum (head k xs))) := rfl
  have HFL : Hid ((frame k xs).length = (head k xs).length + 4) := by unfold Hid; rw [frame_len, head_len]
  generalize head k xs = hd at *
  refine (refsum_any A4 hd.length c4 _ hd _ (Row.of_own HO4.out) HHB.out.crc (by omega)).mono ?_
  rintro e5 w5 ⟨rfl, rfl⟩
  go_wp2_with fail
  refine (refbytes_any (sum hd) (sum_lt hd) _).mono ?_
  rintro e6 w6 ⟨v6, rfl, hown6, hb6⟩
  obtain ⟨A6, c6, rfl, -, hnil6⟩ := own_slice hown6
  have HO4' := Lib.hid (own_below HO4.out hb6)
  have HO6 := Lib.hid hown6
  have HB6 := Lib.hid hb6
  have HN6 := Lib.hid hnil6
  have hs6 := hb6.size
  clear hown6 hb6 hnil6
  go_wp2_with (at_builtin; refine cat_own rfl (.tmp 17) (.tmp 20) 23 rfl w.heap.size 5 i0 .u8 1 Try.underlying23 hi hz0 hz1 hz2 _ hd.length hd rfl HO4'.out _ A6 4 c6 (byts 4 (sum hd)) rfl HN6.out (Row.of_own HO6.out) (by omega) (by omega) (by omega) ?_; intro v7 w7 hown7 hb7; have HO7 := Lib.hid hown7; have HB7 := Lib.hid hb7; clear hown7 hb7)
  go_ret
  refine ⟨v7, rfl, ?_, ?_⟩
  · rw [HFL.out, HF.out]; exact HO7.out
  · exact HB1.out.trans ((HB2.out.mono (by omega)).trans (HB3.out.trans (HB4.out.trans ((HB6.out.mono (by omega)).trans HB7.out))))

set_option maxHeartbeats 800000 in
set_option maxRecDepth 100000 in
/-- Any two slices. -/
theorem same_any (A A' : Option Addr) (n c n' c' B B' : Nat) (xs ys : List Int) (w : World) (hn : n ≤ 4398046511104) (hn' : n' ≤ 4398046511104) (h1 : Row .u8 w B A n xs) (h2 : Row .u8 w B' A' n' ys) :
    Calls Try.prog 11 #[.slice A n c, .slice A' n' c'] w fun e w' => e = .returned (.bool (decide (xs = ys))) ∧ ∃ q, w' = w.drewN q := by
  have H1 := Lib.hid h1
  have H2 := Lib.hid h2
  have l1 := h1.len
  have l2 := h2.len
  clear h1 h2
  by_cases hne : n = n'
  · subst hne
    go_enter Try.func11, Try.ntmps11
    go_wp2
    go_loopw [5] (fun i wr => ∃ k q : Nat, k ≤ n ∧ i = .int .i64 (k : Int) ∧ Hid (xs.take k = ys.take k) ∧ Hid (wr = w.drewN q)) (fun i _ => n - (intOf i).toNat)
    case atStart => exact ⟨0, 0, Nat.zero_le _, rfl, rfl, rfl⟩
    case round =>
      obtain ⟨k, q, hk, rfl, HT, hw⟩ := hrel
      obtain rfl := hw.out
      clear hw
      by_cases hlt : k < n
      · obtain ⟨b, o, rfl, _, hc1⟩ := H1.out.cell_at hlt
        obtain ⟨b', o', rfl, _, hc2⟩ := H2.out.cell_at hlt
        have hx : xs.getD k 0 = xs[k]'(by omega) := by simp [List.getD, show k < xs.length by omega]
        have hy : ys.getD k 0 = ys[k]'(by omega) := by simp [List.getD, show k < ys.length by omega]
        by_cases heq : xs.getD k 0 = ys.getD k 0
        · have HT2 : Hid (xs.take (k + 1) = ys.take (k + 1)) := by
            unfold Hid
            rw [List.take_succ_eq_append_getElem (by omega), List.take_succ_eq_append_getElem (by omega), HT.out, ← hx, ← hy, heq]
          rw [← heq] at hc2
          clear hx hy heq
          go_wp2
          go_quiet (fail)
          go_wp2
          go_roundw
          case rel => exact ⟨k + 1, _, by omega, by go_num, HT2, by unfold Hid; rfl⟩
          case measure => simp [intOf]; omega
        · have HNE : Hid (decide (xs = ys) = false) := by
            unfold Hid
            refine decide_eq_false fun h => heq ?_
            rw [h]
          have hnb : (xs.getD k 0 == ys.getD k 0) = false := beq_eq_false_iff_ne.2 heq
          have hnb2 : (xs.getD k 0 != ys.getD k 0) = true := by rw [bne, hnb]; rfl
          generalize xs.getD k 0 = x at *
          generalize ys.getD k 0 = y at *
          clear hx hy heq
          go_wp2
          go_quiet (fail)
          go_wp2
          go_ret
          exact ⟨by rw [HNE.out]; rfl, q + nq, World.drewN_drewN _ _ _⟩
      · have HY : Hid (decide (xs = ys) = true) := by
          unfold Hid
          have h := HT.out
          rw [List.take_of_length_le (by omega), List.take_of_length_le (by omega)] at h
          exact decide_eq_true h
        go_wp2
        go_ret
        exact ⟨by rw [HY.out]; rfl, _, rfl⟩
  · have HNE : Hid (decide (xs = ys) = false) := by
      unfold Hid
      refine decide_eq_false fun h => hne ?_
      rw [← l1, ← l2, h]
    have hb : ((n : Int) == (n' : Int)) = false := beq_eq_false_iff_ne.2 (by omega)
    have hb2 : ((n : Int) != (n' : Int)) = true := by rw [bne, hb]; rfl
    clear hne
    go_enter Try.func11, Try.ntmps11
    go_wp2
    go_ret
    exact ⟨by rw [HNE.out]; rfl, 0, rfl⟩
end Go.Proofs.Ytmpihllcmdgapaa.Frm

/- Layer 6 (trace): Put, counted, and the reference's Put, as contracts. -/
namespace Go.Proofs.Ytmpihllcmdgapaa.Trc
open Go.RowKit Var Fld Smp Frm Crc Slc

set_option maxHeartbeats 800000 in
set_option maxRecDepth 100000 in
theorem counted_any (k : Int) (h2 : k ≤ 9223372036854775807) (w : World) : Calls Try.prog 22 #[.int .i64 k] w (Makes (num k) w) := by
  have HK := Lib.hid h2
  have hw0 : Wr (w.alloc (.cells #[.slice none 0 0] 73)) w.heap.size w.heap.size (.slice none 0 0) 0 [] :=
    ⟨heap_alloc_new w _, World.ownsRow_nil _ _ _ _, by simp [Value.ownBlock], Nat.le_refl _⟩
  have HW0 := Lib.hid hw0
  have HB0 : Hid (Below w.heap.size w (w.alloc (.cells #[.slice none 0 0] 73))) := (Below.refl _ _).alloc (Nat.le_refl _) _
  clear h2 hw0
  go_enter Try.func22, Try.ntmps22
  go_wp2_with fail
  refine (number_any w.heap.size w.heap.size 0 _ [] k _ HW0.out HK.out (by omega)).mono ?_
  rintro e1 w1 ⟨rfl, v1, hw1, hm1⟩
  have HW1 := Lib.hid hw1
  have HB1 := Lib.hid (HB0.out.trans (HW0.out.below_of hm1))
  have hl := num_len HK.out
  clear hw1 hm1
  go_wp2_with fail
  refine (out_any w.heap.size w.heap.size _ v1 _ w1 HW1.out (by omega)).mono ?_
  rintro e2 w2 ⟨v2, rfl, hown2, hb2⟩
  have HO2 := Lib.hid hown2
  have HB2 := Lib.hid (HB1.out.trans (hb2.mono HB1.out.size))
  clear hown2 hb2
  go_wp2
  go_ret
  refine ⟨v2, rfl, ?_, HB2.out⟩
  have := own_mono HO2.out HB1.out.size
  simpa using this

/-- slices.Concat of two. -/
theorem concat2 (A1 A2 : Option Addr) (n1 c1 n2 c2 : Nat) (xs ys : List Int) (w : World) (h1 : Row .u8 w w.heap.size A1 n1 xs) (h2 : Row .u8 w w.heap.size A2 n2 ys) (i1 : A1 = none → c1 = 0) (i2 : A2 = none → c2 = 0) (hn : n1 + n2 ≤ 4398046511104) :
    Calls Try.prog 21 #[.slice (some ⟨w.heap.size, 0, none⟩) 2 2] (w.alloc (.cells #[.slice A1 n1 c1, .slice A2 n2 c2] 23)) fun e w' =>
      ∃ v, e = .returned v ∧ w'.ownsRow w.heap.size 5 1 v (n1 + n2) ((xs ++ ys).map (Value.int .u8)) ∧ Below w.heap.size w w' := by
  have hb := (Below.refl w.heap.size w).alloc (Nat.le_refl _) (.cells #[.slice A1 n1 c1, .slice A2 n2 c2] 23)
  refine (concat_any [Part.mk A1 n1 c1 xs, Part.mk A2 n2 c2 ys] w.heap.size 2 w.heap.size _ ?_ ?_ hb.size (by simp) (by simp [total]; omega) (by simp)).mono ?_
  · intro j hj
    match j, hj with
    | 0, _ => simp [Part.v]
    | 1, _ => simp [Part.v]
  · intro p hp
    simp only [List.mem_cons, List.not_mem_nil, or_false] at hp
    rcases hp with rfl | rfl
    · exact ⟨h1.below hb, i1⟩
    · exact ⟨h2.below hb, i2⟩
  · rintro e w' ⟨v, rfl, hown, hb'⟩
    have ht : total [Part.mk A1 n1 c1 xs, Part.mk A2 n2 c2 ys] = n1 + n2 := by simp [total]
    have hw : whole [Part.mk A1 n1 c1 xs, Part.mk A2 n2 c2 ys] = xs ++ ys := by simp [whole]
    rw [ht, hw] at hown
    exact ⟨v, rfl, own_mono hown hb.size, hb.trans (hb'.mono hb.size)⟩

/-- What Put leaves. -/
def PutTo (ss : List S) (w : World) (e : Ending) (w' : World) : Prop :=
  ∃ v, e = .returned (.tuple #[v, .int .i64 (putE ss : Int)]) ∧ w'.ownsRow w.heap.size 5 1 v (trB ss).length ((trB ss).map (Value.int .u8)) ∧ Below w.heap.size w w'

theorem putTo_no {ss : List S} {w w' : World} {k : Nat} (he : putE ss = k) (hk : k ≠ 0) (hb : Below w.heap.size w w') : PutTo ss w (.returned (.tuple #[.slice none 0 0, .int .i64 (k : Int)])) w' := by
  subst he
  refine ⟨_, rfl, ?_, hb⟩
  rw [trB_no hk]
  exact World.ownsRow_nil _ _ _ _

set_option maxHeartbeats 1600000 in
set_option maxRecDepth 100000 in
theorem put_any (A : Option Addr) (n c : Nat) (ss : List S) (w : World) (h : SRow w w.heap.size A n ss) (hnc : n ≤ c) (hn : n ≤ 4398046511104) :
    Calls Try.prog 7 #[.slice A n c] w (PutTo ss w) := by
  have HN := Lib.hid hn
  have HL := Lib.hid h.len
  have P := Smp.put_any A n c ss w h hnc hn
  unfold Smp.PutTo at P
  have HP := Lib.hid P
  clear h P
  go_enter Try.func7, Try.ntmps7
  go_wp2_with fail
  refine HP.out.mono ?_
  rintro e1 w1 ⟨v1, rfl, hown1, hb1⟩
  have HB1 := Lib.hid hb1
  obtain ⟨A1, c1, rfl, hnil1⟩ := own_nil hown1
  have HO1 := Lib.hid hown1
  have HI1 := Lib.hid hnil1
  clear hown1 hb1 HP hnil1
  by_cases he : putE ss = 0
  case neg =>
    have hb1 : ((putE ss : Int) == 0) = false := beq_eq_false_iff_ne.2 (by omega)
    have hb2 : ((putE ss : Int) != 0) = true := by rw [bne, hb1]; rfl
    have HE := Lib.hid he
    clear he
    go_wp2
    go_ret2
    exact putTo_no rfl HE.out HB1.out
  case pos =>
    have HE := Lib.hid he
    have hcl := cont_len he
    have hpl := (putE_ok he).1
    rw [HL.out] at hpl
    rw [putB_ok he] at HO1
    rw [putB_ok he, he]
    have HCL := Lib.hid hcl
    clear he hcl
    obtain ⟨N, hN⟩ : ∃ N, (enc ss).length = N := ⟨_, rfl⟩
    rw [hN] at HO1 ⊢
    have HNN := Lib.hid hN
    clear hN
    go_wp2_with fail
    refine (counted_any (n : Int) (by omega) w1).mono ?_
    rintro e2 w2 ⟨v2, rfl, hown2, hb2⟩
    obtain ⟨A2, c2, rfl, hnil2⟩ := own_nil hown2
    have HO2 := Lib.hid hown2
    have HB2 := Lib.hid hb2
    have HI2 := Lib.hid hnil2
    clear hown2 hb2 hnil2
    have hnl := num_len (k := (n : Int)) (by omega)
    have hln : (num (n : Int)).length + N = (cont ss).length := by unfold cont; rw [List.length_append, HNN.out, HL.out]
    have hcc : num (n : Int) ++ enc ss = cont ss := by unfold cont; rw [HL.out]
    have P := concat2 A2 A1 (num (n : Int)).length c2 N c1 (num (n : Int)) (enc ss) w2 (Row.of_own HO2.out) (((Row.of_own HO1.out).below HB2.out).more HB2.out.size) HI2.out HI1.out (by have := HCL.out; omega)
    rw [hln, hcc] at P
    have HP := Lib.hid P
    clear P hln hcc hnl
    go_wp2_with fail
    refine HP.out.mono ?_
    rintro e3 w3 ⟨v3, rfl, hown3, hb3⟩
    obtain ⟨A3, c3, rfl, hnil3⟩ := own_nil hown3
    have HO3 := Lib.hid hown3
    have HB3 := Lib.hid (HB2.out.trans (hb3.mono HB2.out.size))
    have HI3 := Lib.hid hnil3
    clear hown3 hb3 hnil3 HP
    go_wp2_with fail
    refine (Frm.put_any 1 (by omega) A3 _ c3 (cont ss) w3 (Row.of_own HO3.out) HI3.out (cont_byt ss) (by have := HCL.out; omega)).mono ?_
    rintro e4 w4 ⟨v4, rfl, hown4, hb4⟩
    go_wp2
    go_ret2
    refine ⟨v4, by rw [HE.out]; rfl, ?_, HB1.out.trans ((HB3.out.trans (hb4.mono HB3.out.size)).mono HB1.out.size)⟩
    rw [trB_ok HE.out]
    exact own_mono hown4 (Nat.le_trans HB1.out.size HB3.out.size)

set_option maxHeartbeats 1600000 in
set_option maxRecDepth 100000 in
theorem refput_any (A : Option Addr) (n c : Nat) (ss : List S) (w : World) (h : SRow w w.heap.size A n ss) (hn : n ≤ 4398046511104) :
    Calls Try.prog 8 #[.slice A n c] w (PutTo ss w) := by
  obtain ⟨i0, hi, hz0, hz1, hz2⟩ := info_parts Slc.info_u8
  have HN := Lib.hid hn
  have HL := Lib.hid h.len
  have P := Smp.refput_any A n c ss w h hn
  unfold Smp.PutTo at P
  have HP := Lib.hid P
  clear h P
  go_enter Try.func8, Try.ntmps8
  go_wp2_with fail
  refine HP.out.mono ?_
  rintro e1 w1 ⟨v1, rfl, hown1, hb1⟩
  have HB1 := Lib.hid hb1
  obtain ⟨A1, c1, rfl, hnil1⟩ := own_nil hown1
  have HO1 := Lib.hid hown1
  have HI1 := Lib.hid hnil1
  clear hown1 hb1 HP hnil1
  by_cases he : putE ss = 0
  case neg =>
    have hb1 : ((putE ss : Int) == 0) = false := beq_eq_false_iff_ne.2 (by omega)
    have hb2 : ((putE ss : Int) != 0) = true := by rw [bne, hb1]; rfl
    have HE := Lib.hid he
    clear he
    go_wp2
    go_ret2
    exact putTo_no rfl HE.out HB1.out
  case pos =>
    have HE := Lib.hid he
    have hcl := cont_len he
    have hpl := (putE_ok he).1
    rw [HL.out] at hpl
    rw [putB_ok he] at HO1
    rw [putB_ok he, he]
    have HCL := Lib.hid hcl
    clear he hcl
    obtain ⟨N, hN⟩ : ∃ N, (enc ss).length = N := ⟨_, rfl⟩
    rw [hN] at HO1 ⊢
    have HNN := Lib.hid hN
    clear hN
    go_wp2_with fail
    refine (refnumber_any (n : Int) (by omega) w1).mono ?_
    rintro e2 w2 ⟨v2, rfl, hown2, hb2⟩
    obtain ⟨M, hM⟩ : ∃ M, (num (n : Int)).length = M := ⟨_, rfl⟩
    rw [hM] at hown2
    obtain ⟨A2, c2, rfl, hnil2⟩ := own_nil hown2
    have HO2 := Lib.hid hown2
    have HB2 := Lib.hid hb2
    have hln : M + N = (cont ss).length := by unfold cont; rw [List.length_append, HNN.out, HL.out, hM]
    have hcc : num (n : Int) ++ enc ss = cont ss := by unfold cont; rw [HL.out]
    have HLN := Lib.hid hln
    have HCC := Lib.hid hcc
    have hml : M + N ≤ 70000 := by have := HCL.out; omega
    clear hown2 hb2 hnil2 hM hln hcc
    go_wp2_with (at_builtin; refine cat_own rfl (.tmp 16) (.tmp 17) 23 rfl w1.heap.size 5 i0 .u8 1 Try.underlying23 hi hz0 hz1 hz2 _ M (num (n : Int)) rfl HO2.out w1.heap.size A1 N c1 (enc ss) rfl HI1.out ((Row.of_own HO1.out).below HB2.out) (by omega) (by omega) HB2.out.size ?_; intro v3 w3 hown3 hb3)
    obtain ⟨A3, c3, rfl, hnil3⟩ := own_nil hown3
    rw [HCC.out, HLN.out] at hown3
    have HO3 := Lib.hid hown3
    have HB3 := Lib.hid (HB2.out.trans hb3)
    have HI3 := Lib.hid hnil3
    clear hown3 hb3 hnil3
    rw [HLN.out]
    go_wp2_with fail
    refine (Frm.refput_any 1 (by omega) A3 _ c3 (cont ss) w3 (Row.of_own HO3.out) HI3.out (cont_byt ss) (by have := HCL.out; omega)).mono ?_
    rintro e4 w4 ⟨v4, rfl, hown4, hb4⟩
    go_wp2
    go_ret2
    refine ⟨v4, by rw [HE.out]; rfl, ?_, HB1.out.trans ((HB3.out.trans (hb4.mono HB3.out.size)).mono HB1.out.size)⟩
    rw [trB_ok HE.out]
    exact own_mono hown4 (Nat.le_trans HB1.out.size HB3.out.size)
end Go.Proofs.Ytmpihllcmdgapaa.Trc

/- What layer 4's Take returns, as a contract over the program. -/
namespace Go.Proofs.Ytmpihllcmdgapaa.Frm
open Go.RowKit Var Crc Slc
attribute [local go_sem ↓] Go.wp_at_zero Go.wp_at_succ

theorem results_tmp4 {fn : Func} {t u v x : Tmp} (h : fn.results = #[.tmp t, .tmp u, .tmp v, .tmp x]) (tmps : Array Value) (P : Program) (w : World) :
    (results fn tmps).run P w = .ok (.tuple #[tmps.getD t undef, tmps.getD u undef, tmps.getD v undef, tmps.getD x undef]) w := by
  simp [results, h]

/-- What is left from a label on. -/
def Later (P : Program) (rest : Code) (Q : Exit → Act → World → Prop) (a : Act) (w : World) : Prop := rest.wp P Q a w
/-- A scope whose one label is jumped to from ahead alone. -/
theorem scope_on {P : Program} {a : Act} {w : World} {Q : Exit → Act → World → Prop} {c rest : Code} (l : Nat) (hf : findLabel c l = some (.seq .skip rest))
    (h : c.wp P (Exit.jump l (Later P rest (Exit.jump l (fun _ _ => False) Q)) Q) a w) : (Code.scope c).wp P Q a w := by
  refine wp_scope_jumps l (Later P rest (Exit.jump l (fun _ _ => False) Q)) (fun _ _ => 0) hf h ?_
  intro a w hJ
  refine wp_seq (wp_skip (wp_mono hJ ?_))
  intro e a' w' h
  cases e <;> first | exact h.2.elim | exact h

/-- A part of a slice. -/
theorem row_sub {k : IntKind} {w : World} {B b o n : Nat} {xs : List Int} (h : Row k w B (some ⟨b, o, none⟩) n xs) {lo m : Nat} (hm : lo + m ≤ n) : Row k w B (some ⟨b, o + lo, none⟩) m ((xs.drop lo).take m) := by
  have hl := h.1
  refine ⟨by simp; omega, fun h0 => ?_⟩
  obtain ⟨b', o', e, hb, hc⟩ := h.2 (by omega)
  injection e with e
  injection e with e1 e2
  subst e1; subst e2
  refine ⟨b, o + lo, rfl, hb, fun j hj => ?_⟩
  rw [Nat.add_assoc, hc (lo + j) (by omega)]
  simp [List.getD, hj]

/-- What Take returns. -/
def Takes (t : Int × List Int × Nat × Nat) (w : World) (e : Ending) (w' : World) : Prop :=
  ∃ v, e = .returned (.tuple #[.int .u8 t.1, v, .int .i64 (t.2.2.1 : Int), .int .i64 (t.2.2.2 : Int)]) ∧ w'.ownsRow w.heap.size 5 1 v t.2.1.length (t.2.1.map (Value.int .u8)) ∧ Below w.heap.size w w'

set_option maxHeartbeats 3200000 in
set_option maxRecDepth 100000 in
theorem take_good (b o n c sz cnt f t : Nat) (xs : List Int) (w : World) (hr : Row .u8 w w.heap.size (some ⟨b, o, none⟩) n xs) (hx : Byt xs) (hn : n ≤ 4398046511104) (hcap : n ≤ c) (hc' : c ≤ 9223372036854775807)
    (h1 : xs.getD 0 0 = 199) (hc2 : ¬ c = 2) (hk : take 0 0 (xs.drop 2) = (cnt, sz, 0)) (hsz : sz ≤ n - 2 ∧ 0 < sz) (hcnt : ¬ 1048576 < cnt) (hf : f = 2 + sz) (ht : t = f + cnt) (htn : t + 4 ≤ n) :
    Calls Try.prog 51 #[.slice (some ⟨b, o, none⟩) n c] w (Takes (took xs) w) := by
  have HR := Lib.hid hr
  have HX := Lib.hid hx
  have HK := Lib.hid hk
  have hlen := hr.len
  have hcell0 := (hr.cell_at (j := 0) (by omega))
  have hcell1 := (hr.cell_at (j := 1) (by omega))
  obtain ⟨_, _, e, hbw, hcell0⟩ := hcell0
  injection e with e
  injection e with e1 e2
  subst e1; subst e2
  obtain ⟨_, _, e, _, hcell1⟩ := hcell1
  injection e with e
  injection e with e1 e2
  subst e1; subst e2
  rw [Nat.add_zero, h1] at hcell0
  have hnb : ((n : Int) == 0) = false := beq_eq_false_iff_ne.2 (by omega)
  have hto : Hid (to_ xs = t) := by unfold Hid to_ from_; rw [hk]; simp only; omega
  have hfrom : Hid (from_ xs = f) := by unfold Hid from_; rw [hk]; simp only; omega
  have HR2 : Hid (Row .u8 w w.heap.size (some ⟨b, o + 2, none⟩) (n - 2) (xs.drop 2)) := by
    have := row_sub HR.out (lo := 2) (m := n - 2) (by omega)
    rwa [List.take_of_length_le (by simp; omega)] at this
  have HT : Hid (took xs = if (xs.drop t).take 4 ≠ byts 4 (sum (xs.take t)) then (0, [], 0, 12) else (xs.getD 1 0, (xs.drop f).take cnt, t + 4, 0)) := by
    unfold Hid took
    rw [if_neg (by omega), if_neg (by simp only [h1, ne_eq, not_true, not_false_iff]), if_neg (by omega), HK.out, if_neg (by simp), if_neg hcnt, hto.out, if_neg (by omega), hfrom.out]
  have HRS : Hid (Row .u8 w w.heap.size (some ⟨b, o + t, none⟩) (((t : Int) + 4).toNat - t) ((xs.drop t).take 4)) := by
    unfold Hid
    rw [show ((t : Int) + 4).toNat - t = 4 by omega]
    exact row_sub HR.out (by omega)
  have HRT : Hid (Row .u8 w w.heap.size (some ⟨b, o, none⟩) t (xs.take t)) := by
    have := row_sub HR.out (lo := 0) (m := t) (by omega)
    rwa [Nat.add_zero, List.drop_zero] at this
  have HRC : Hid (Row .u8 w w.heap.size (some ⟨b, o + f, none⟩) (t - f) ((xs.drop f).take cnt)) := by
    unfold Hid
    rw [show t - f = cnt by omega]
    exact row_sub HR.out (by omega)
  have HCL : Hid (((xs.drop f).take cnt).length = t - f) := HRC.out.len
  have hy := HX.out.getD 1
  have hsum1 : IntKind.i64.wrap (2 + (sz : Int)) = (f : Int) := by rw [IntWalk.i64_in _ ⟨by omega, by omega⟩]; omega
  have hsum2 : IntKind.i64.wrap ((f : Int) + (cnt : Int)) = (t : Int) := by rw [IntWalk.i64_in _ ⟨by omega, by omega⟩]; omega
  have hconv : IntKind.i64.wrap (cnt : Int) = (cnt : Int) := IntWalk.i64_in _ ⟨by omega, by omega⟩
  have hw4 : IntKind.i64.wrap ((t : Int) + 4) = (t : Int) + 4 := IntWalk.i64_in _ ⟨by omega, by omega⟩
  have hct : ¬ c = t := by omega
  have hcf : ¬ c = f := by omega
  have i1 : (0 : Int) ≤ (t : Int) := by omega
  have i2 : (t : Int) ≤ (t : Int) + 4 := by omega
  have i3 : (t : Int) + 4 ≤ (c : Int) := by omega
  have i4 : (t : Int) ≤ (c : Int) := by omega
  have i5 : (f : Int) ≤ (t : Int) := by omega
  have i6 : (0 : Int) ≤ (f : Int) := by omega
  have i7 : (t : Int) + 4 ≤ (n : Int) := by omega
  have i8 : (2 : Int) ≤ (n : Int) := by omega
  have i9 : (1 : Int) < (n : Int) := by omega
  have HFT := Lib.hid ht
  have d1 : decide ((n : Int) < 2) = false := by simp; omega
  have d2 : decide ((1048576 : Int) < (cnt : Int)) = false := by simp; omega
  have d3 : decide ((n : Int) < (t : Int) + 4) = false := by simp; omega
  clear hr hx hk h1 hf ht htn hsz hcnt hlen
  go_enter Try.func51, Try.ntmps51
  go_wp2_with fail
  refine scope_on 0 rfl ?_
  go_wp2_with fail
  refine (Var.take_any (some ⟨b, o + 2, none⟩) (n - 2) (c - 2) w.heap.size (xs.drop 2) w HR2.out (HX.out.drop 2)).mono ?_
  rintro e1 w1 ⟨rfl, rfl⟩
  rw [HK.out]
  go_wp2_with fail
  clear hsum1 hsum2 hconv d1 d2 d3 hnb hcell0
  clear hto hfrom HR2 HK
  go_region_held3 (fun _ => True) (trivial) (first
    | (go_at_call 43; refine (fsum_any (some ⟨b, o, none⟩) t c w.heap.size (xs.take t) _ HRT.out.drew (HX.out.take t) (Nat.le_refl _) (by omega)).mono ?_; rintro r1 w5 ⟨v5, rfl, hown5, hb5⟩; obtain ⟨A5, c5, rfl, -, -⟩ := own_slice hown5; have HO5 := Lib.hid hown5; have HB5 := Lib.hid hb5; clear hown5 hb5)
    | (go_at_call 68; refine (equal_any (some ⟨b, o + t, none⟩) A5 (((t : Int) + 4).toNat - t) (c - t) 4 c5 w.heap.size _ ((xs.drop t).take 4) (byts 4 (sum (xs.take t))) _ (HRS.out.drew.below HB5.out) (Row.of_own HO5.out) ((HX.out.drop t).take 4) (byts_byt _ _)).mono ?_; rintro r2 w6 ⟨rfl, rfl⟩))
  have HBW := Lib.hid ((Below.refl w.heap.size w).drew.trans HB5.out)
  by_cases heq : (xs.drop t).take 4 = byts 4 (sum (xs.take t))
  · have hdec : decide ((xs.drop t).take 4 = byts 4 (sum (xs.take t))) = true := decide_eq_true heq
    have HT' := Lib.hid (HT.out.trans (if_neg (by simp only [heq, ne_eq, not_true, not_false_iff])))
    rw [hdec]
    clear HT heq hdec
    generalize xs.getD 1 0 = y at *
    have m1 : w5.cell? ⟨b, o + 1, none⟩ = some (.int .u8 y) := (HBW.out.cell (p := ⟨b, o + 1, none⟩) hbw).trans hcell1
    have m2 : w5.drew.cell? ⟨b, o + 1, none⟩ = some (.int .u8 y) := m1
    have HRC5 := Lib.hid (HRC.out.below HBW.out).drew
    have hs5 := HBW.out.size
    clear hcell1
    go_wp2
    go_region_held3 (fun wx => wx.cell? ⟨b, o + 1, none⟩ = some (.int .u8 y)) (first | exact m1 | exact m3) (
      (go_at_call 52; refine (clone_any (some ⟨b, o + f, none⟩) (t - f) (c - f) w.heap.size ((xs.drop f).take cnt) _ HRC5.out (fun h => by cases h) hs5 (by omega)).mono ?_; rintro r3 w7 ⟨v7, rfl, hown7, hb7⟩; have m3 := (hb7.cell (p := ⟨b, o + 1, none⟩) (Nat.lt_of_lt_of_le hbw hs5)).trans m2; have HO7 := Lib.hid hown7; have HB7 := Lib.hid hb7; clear hown7 hb7))
    go_wp2
    simp only [Exit.jump]
    refine bodyPost_ret (results_tmp4 rfl _ _ _) rfl ?_
    rw [HT'.out]
    refine ⟨v7, rfl, ?_, HBW.out.drew.trans (HB7.out.mono hs5)⟩
    simp only
    rw [HCL.out]
    exact own_mono HO7.out hs5
  · have hdec : decide ((xs.drop t).take 4 = byts 4 (sum (xs.take t))) = false := decide_eq_false heq
    have HT' := Lib.hid (HT.out.trans (if_pos heq))
    rw [hdec]
    clear HT heq hdec
    go_wp2
    go_step3
    refine ⟨rfl, ?_⟩
    unfold Later
    go_wp2
    simp only [Exit.jump]
    refine bodyPost_ret (results_tmp4 rfl _ _ _) rfl ?_
    rw [HT'.out]
    exact ⟨_, rfl, World.ownsRow_nil _ _ _ _, HBW.out⟩

set_option maxHeartbeats 1600000 in
set_option maxRecDepth 100000 in
theorem take_any (A : Option Addr) (n c : Nat) (xs : List Int) (w : World) (hr : Row .u8 w w.heap.size A n xs) (hnil : A = none → c = 0) (hx : Byt xs) (hn : n ≤ 4398046511104) (hcap : n ≤ c) (hc : c ≤ maxLen) :
    Calls Try.prog 51 #[.slice A n c] w (Takes (took xs) w) := by
  have HR := Lib.hid hr
  have HX := Lib.hid hx
  have HN := Lib.hid hnil
  have hlen := hr.len
  have hc' : c ≤ 9223372036854775807 := by unfold maxLen at hc; omega
  clear hr hx hnil hc
  by_cases h0 : n = 0
  · subst h0
    have HT : Hid (took xs = (0, [], 0, 10)) := by unfold Hid took; rw [if_pos hlen]
    rw [HT.out]
    go_enter Try.func51, Try.ntmps51
    go_wp2
    refine scope_on 0 rfl ?_
    go_wp2
    go_step3
    refine ⟨rfl, ?_⟩
    unfold Later
    go_wp2
    simp only [Exit.jump]
    refine bodyPost_ret (results_tmp4 rfl _ _ _) rfl ?_
    exact ⟨_, rfl, World.ownsRow_nil _ _ _ _, Below.refl _ _⟩
  obtain ⟨b, o, rfl, hbw, hcell0⟩ := HR.out.cell_at (show 0 < n by omega)
  rw [Nat.add_zero] at hcell0
  have hnb : ((n : Int) == 0) = false := beq_eq_false_iff_ne.2 (by omega)
  have hy := HX.out.getD 0
  by_cases h1 : ¬ xs.getD 0 0 = 199
  · have HT : Hid (took xs = (0, [], 0, 11)) := by unfold Hid took; rw [if_neg (by omega), if_pos h1]
    rw [HT.out]
    have hb1 : (xs.getD 0 0 == 199) = false := beq_eq_false_iff_ne.2 h1
    have hb2 : (xs.getD 0 0 != 199) = true := by rw [bne, hb1]; rfl
    generalize xs.getD 0 0 = y at *
    clear h1
    go_enter Try.func51, Try.ntmps51
    go_wp2
    refine scope_on 0 rfl ?_
    go_wp2
    go_step3
    refine ⟨rfl, ?_⟩
    unfold Later
    go_wp2
    simp only [Exit.jump]
    refine bodyPost_ret (results_tmp4 rfl _ _ _) rfl ?_
    exact ⟨_, rfl, World.ownsRow_nil _ _ _ _, Below.refl _ _⟩
  have h1 : xs.getD 0 0 = 199 := Decidable.not_not.1 h1
  rw [h1] at hcell0
  by_cases h2 : n < 2
  · have HT : Hid (took xs = (0, [], 0, 10)) := by unfold Hid took; rw [if_neg (by omega), if_neg (by simp only [h1, ne_eq, not_true, not_false_iff]), if_pos (by omega)]
    rw [HT.out]
    clear h1 hy
    go_enter Try.func51, Try.ntmps51
    go_wp2
    refine scope_on 0 rfl ?_
    go_wp2
    go_step3
    refine ⟨rfl, ?_⟩
    unfold Later
    go_wp2
    simp only [Exit.jump]
    refine bodyPost_ret (results_tmp4 rfl _ _ _) rfl ?_
    exact ⟨_, rfl, World.ownsRow_nil _ _ _ _, Below.refl _ _⟩
  by_cases hc2 : c = 2
  · subst hc2
    have hn2 : n = 2 := by omega
    subst hn2
    have hd : xs.drop 2 = [] := List.drop_eq_nil_of_le (by omega)
    have HT : Hid (took xs = (0, [], 0, 10)) := by
      unfold Hid took
      rw [if_neg (by omega), if_neg (by simp only [h1, ne_eq, not_true, not_false_iff]), if_neg (by omega), hd, if_pos (by simp [take])]
      rfl
    have HD : Hid (take 0 0 ([] : List Int) = (0, 0, 10)) := rfl
    clear h1 hy hd
    go_enter Try.func51, Try.ntmps51
    go_wp2_with fail
    refine scope_on 0 rfl ?_
    go_wp2_with fail
    refine (Var.take_any (some ⟨b, o, none⟩) 0 0 w.heap.size [] w Row.none_ (fun x hx => by simp at hx)).mono ?_
    rintro e1 w1 ⟨rfl, rfl⟩
    rw [HD.out]
    go_wp2
    go_step3
    refine ⟨rfl, ?_⟩
    unfold Later
    go_wp2
    simp only [Exit.jump]
    refine bodyPost_ret (results_tmp4 rfl _ _ _) rfl ?_
    rw [HT.out]
    exact ⟨_, rfl, World.ownsRow_nil _ _ _ _, Below.refl _ _⟩
  have HR2 : Hid (Row .u8 w w.heap.size (some ⟨b, o + 2, none⟩) (n - 2) (xs.drop 2)) := by
    have := row_sub HR.out (lo := 2) (m := n - 2) (by omega)
    rwa [List.take_of_length_le (by simp; omega)] at this
  obtain ⟨cnt, sz, er, HK⟩ : ∃ cnt sz er, Hid (take 0 0 (xs.drop 2) = (cnt, sz, er)) := ⟨_, _, _, Lib.hid rfl⟩
  have hsz : er = 0 → sz ≤ n - 2 ∧ 0 < sz := by
    rintro rfl
    obtain ⟨m, _, _, h3, h4, _⟩ := put_take (xs.drop 2) 0 0 (HX.out.drop 2) (by rw [HK.out])
    rw [HK.out] at h3 h4
    simp at h3 h4
    omega
  by_cases hgood : er = 0 ∧ ¬ 1048576 < cnt ∧ ¬ n < 2 + sz + cnt + 4
  · obtain ⟨rfl, hcnt, hend⟩ := hgood
    exact take_good b o n c sz cnt (2 + sz) (2 + sz + cnt) xs w HR.out HX.out hn hcap hc' h1 hc2 HK.out (hsz rfl) hcnt rfl rfl (by omega)
  go_enter Try.func51, Try.ntmps51
  go_wp2_with fail
  refine scope_on 0 rfl ?_
  go_wp2_with fail
  refine (Var.take_any (some ⟨b, o + 2, none⟩) (n - 2) (c - 2) w.heap.size (xs.drop 2) w HR2.out (HX.out.drop 2)).mono ?_
  rintro e1 w1 ⟨rfl, rfl⟩
  rw [HK.out]
  by_cases her : er ≠ 0
  · have HT : Hid (took xs = (0, [], 0, er)) := by
      unfold Hid took
      rw [if_neg (by omega), if_neg (by simp only [h1, ne_eq, not_true, not_false_iff]), if_neg (by omega), HK.out, if_pos her]
    have hb1 : ((er : Int) == 0) = false := beq_eq_false_iff_ne.2 (by omega)
    have hb2 : ((er : Int) != 0) = true := by rw [bne, hb1]; rfl
    clear h1 hy her
    go_wp2
    go_step3
    refine ⟨rfl, ?_⟩
    unfold Later
    go_wp2
    simp only [Exit.jump]
    refine bodyPost_ret (results_tmp4 rfl _ _ _) rfl ?_
    rw [HT.out]
    exact ⟨_, rfl, World.ownsRow_nil _ _ _ _, Below.refl _ _⟩
  obtain rfl : er = 0 := by omega
  clear her
  have hsz := hsz rfl
  by_cases hcnt : 1048576 < cnt
  · have HT : Hid (took xs = (0, [], 0, 3)) := by
      unfold Hid took
      rw [if_neg (by omega), if_neg (by simp only [h1, ne_eq, not_true, not_false_iff]), if_neg (by omega), HK.out, if_neg (by simp), if_pos hcnt]
    have hd1 : (1048576 : Int) < (cnt : Int) := by omega
    clear h1 hy hcnt
    go_wp2
    go_step3
    refine ⟨rfl, ?_⟩
    unfold Later
    go_wp2
    simp only [Exit.jump]
    refine bodyPost_ret (results_tmp4 rfl _ _ _) rfl ?_
    rw [HT.out]
    exact ⟨_, rfl, World.ownsRow_nil _ _ _ _, Below.refl _ _⟩
  have hto : Hid (to_ xs = 2 + sz + cnt) := by unfold Hid to_ from_; rw [HK.out]
  have hfrom : Hid (from_ xs = 2 + sz) := by unfold Hid from_; rw [HK.out]
  by_cases hend : n < 2 + sz + cnt + 4
  · have HT : Hid (took xs = (0, [], 0, 10)) := by
      unfold Hid took
      rw [if_neg (by omega), if_neg (by simp only [h1, ne_eq, not_true, not_false_iff]), if_neg (by omega), HK.out, if_neg (by simp), if_neg hcnt, hto.out, if_pos (by omega)]
    clear h1 hy
    go_wp2
    go_step3
    refine ⟨rfl, ?_⟩
    unfold Later
    go_wp2
    simp only [Exit.jump]
    refine bodyPost_ret (results_tmp4 rfl _ _ _) rfl ?_
    rw [HT.out]
    exact ⟨_, rfl, World.ownsRow_nil _ _ _ _, Below.refl _ _⟩
  exact absurd ⟨rfl, hcnt, hend⟩ hgood
end Go.Proofs.Ytmpihllcmdgapaa.Frm

/- What the reference's Take of layer 4 returns, as a contract over the program. -/
namespace Go.Proofs.Ytmpihllcmdgapaa.Frm
open Go.RowKit Var Crc Slc
attribute [local go_sem ↓] Go.wp_at_zero Go.wp_at_succ

/-- A slice's pointer and capacity fit. -/
def Fit (A : Option Addr) (n c : Nat) : Prop := (A = none → c = 0) ∧ n ≤ c
theorem Fit.none_ : Fit none 0 0 := ⟨fun _ => rfl, Nat.le_refl _⟩

/-- What the reference's Take returns: the content is a part of what came in. -/
def RTakes (t : Int × List Int × Nat × Nat) (w : World) (e : Ending) (w' : World) : Prop :=
  ∃ A c, e = .returned (.tuple #[.int .u8 t.1, .slice A t.2.1.length c, .int .i64 (t.2.2.1 : Int), .int .i64 (t.2.2.2 : Int)]) ∧ Row .u8 w' w.heap.size A t.2.1.length t.2.1 ∧ Below w.heap.size w w' ∧ Fit A t.2.1.length c

set_option maxHeartbeats 3200000 in
set_option maxRecDepth 100000 in
theorem reftake_good (b o n c sz cnt f t al : Nat) (xs : List Int) (w : World) (hr : Row .u8 w w.heap.size (some ⟨b, o, none⟩) n xs) (hx : Byt xs) (hn : n ≤ 4398046511104) (hcap : n ≤ c) (hc' : c ≤ 9223372036854775807)
    (h1 : xs.getD 0 0 = 199) (hc2 : ¬ c = 2) (hk : take 0 0 (xs.drop 2) = (cnt, sz, 0)) (hsz : sz ≤ n - 2 ∧ 0 < sz) (hcnt : ¬ 1048576 < cnt) (hf : f = 2 + sz) (ht : t = f + cnt) (hal : al = t + 4) (htn : al ≤ n) :
    Calls Try.prog 57 #[.slice (some ⟨b, o, none⟩) n c] w (RTakes (took xs) w) := by
  have HR := Lib.hid hr
  have HX := Lib.hid hx
  have HK := Lib.hid hk
  have hlen := hr.len
  have hcell0 := (hr.cell_at (j := 0) (by omega))
  have hcell1 := (hr.cell_at (j := 1) (by omega))
  obtain ⟨_, _, e, hbw, hcell0⟩ := hcell0
  injection e with e
  injection e with e1 e2
  subst e1; subst e2
  obtain ⟨_, _, e, _, hcell1⟩ := hcell1
  injection e with e
  injection e with e1 e2
  subst e1; subst e2
  rw [Nat.add_zero, h1] at hcell0
  have hnb : ((n : Int) == 0) = false := beq_eq_false_iff_ne.2 (by omega)
  have hto : Hid (to_ xs = t) := by unfold Hid to_ from_; rw [hk]; simp only; omega
  have hfrom : Hid (from_ xs = f) := by unfold Hid from_; rw [hk]; simp only; omega
  have HR2 : Hid (Row .u8 w w.heap.size (some ⟨b, o + 2, none⟩) (n - 2) (xs.drop 2)) := by
    have := row_sub HR.out (lo := 2) (m := n - 2) (by omega)
    rwa [List.take_of_length_le (by simp; omega)] at this
  have HCH : Hid (frame (xs.getD 1 0) ((xs.drop f).take cnt) = xs.take al ↔ (xs.drop t).take 4 = byts 4 (sum (xs.take t))) := by
    have := check HX.out h1 (by omega) (by rw [hk]) (by rw [hto.out]; omega)
    rw [hto.out, hfrom.out, hk] at this
    rw [hal]
    exact this
  have HT : Hid (took xs = if ¬ frame (xs.getD 1 0) ((xs.drop f).take cnt) = xs.take al then (0, [], 0, 12) else (xs.getD 1 0, (xs.drop f).take cnt, al, 0)) := by
    unfold Hid took
    rw [if_neg (by omega), if_neg (by simp only [h1, ne_eq, not_true, not_false_iff]), if_neg (by omega), HK.out, if_neg (by simp), if_neg hcnt, hto.out, if_neg (by omega), hfrom.out, ← hal]
    by_cases h : (xs.drop t).take 4 = byts 4 (sum (xs.take t))
    · rw [if_neg (fun h' => h' h), if_neg (fun h' => h' (HCH.out.2 h))]
    · rw [if_pos h, if_pos (fun h' => h (HCH.out.1 h'))]
  have HRA : Hid (Row .u8 w w.heap.size (some ⟨b, o, none⟩) al (xs.take al)) := by
    have := row_sub HR.out (lo := 0) (m := al) (by omega)
    rwa [Nat.add_zero, List.drop_zero] at this
  have HRC : Hid (Row .u8 w w.heap.size (some ⟨b, o + f, none⟩) (t - f) ((xs.drop f).take cnt)) := by
    unfold Hid
    rw [show t - f = cnt by omega]
    exact row_sub HR.out (by omega)
  have HCL : Hid (((xs.drop f).take cnt).length = t - f) := HRC.out.len
  have hy := HX.out.getD 1
  have hcs : t - f ≤ 1048576 := by omega
  have hsum1 : IntKind.i64.wrap (2 + (sz : Int)) = (f : Int) := by rw [IntWalk.i64_in _ ⟨by omega, by omega⟩]; omega
  have hsum2 : IntKind.i64.wrap ((f : Int) + (cnt : Int)) = (t : Int) := by rw [IntWalk.i64_in _ ⟨by omega, by omega⟩]; omega
  have hconv : IntKind.i64.wrap (cnt : Int) = (cnt : Int) := IntWalk.i64_in _ ⟨by omega, by omega⟩
  have hw4 : IntKind.i64.wrap ((t : Int) + 4) = (al : Int) := by rw [IntWalk.i64_in _ ⟨by omega, by omega⟩]; omega
  have hw5 : IntKind.i64.wrap ((al : Int) - 4) = (t : Int) := by rw [IntWalk.i64_in _ ⟨by omega, by omega⟩]; omega
  have hcf : ¬ c = f := by omega
  have i1 : (0 : Int) ≤ (al : Int) := by omega
  have i2 : (t : Int) ≤ (c : Int) := by omega
  have i3 : (al : Int) ≤ (c : Int) := by omega
  have i5 : (f : Int) ≤ (t : Int) := by omega
  have i6 : (0 : Int) ≤ (f : Int) := by omega
  have i8 : (2 : Int) ≤ (n : Int) := by omega
  have i9 : (1 : Int) < (n : Int) := by omega
  have d1 : decide ((n : Int) < 2) = false := by simp; omega
  have d2 : decide ((1048576 : Int) < (cnt : Int)) = false := by simp; omega
  have d3 : decide ((n : Int) < (al : Int)) = false := by simp; omega
  have hale : al ≤ 4398046511104 := by omega
  have HFL : Hid ((frame (xs.getD 1 0) ((xs.drop f).take cnt)).length ≤ 4398046511104) := by
    unfold Hid
    have := put_len10 (n := ((xs.drop f).take cnt).length) (by rw [HCL.out]; omega)
    rw [frame_len, HCL.out]
    rw [HCL.out] at this
    omega
  have d4 : ¬ n < al := by omega
  clear hr hx hk h1 hf ht hsz hcnt hlen hal HCH
  go_enter Try.func57, Try.ntmps57
  go_wp2_with fail
  refine (Var.reftake_any (some ⟨b, o + 2, none⟩) (n - 2) (c - 2) w.heap.size (xs.drop 2) w HR2.out (HX.out.drop 2)).mono ?_
  rintro e1 w1 ⟨rfl, rfl⟩
  rw [HK.out]
  go_wp2_with fail
  generalize xs.getD 1 0 = y at *
  have HRC5 := Lib.hid (HRC.out).drew
  have m2 : w.drew.cell? ⟨b, o + 1, none⟩ = some (.int .u8 y) := hcell1
  clear hsum1 hsum2 hconv d1 d2 d3 hnb hcell0 hto hfrom HR2 HK hw4 hw5
  go_region_held3 (fun wx => wx.cell? ⟨b, o + 1, none⟩ = some (.int .u8 y)) (first | exact hcell1 | exact m3 | exact m4) (first
    | (go_at_call 24; refine (refput_any y hy (some ⟨b, o + f, none⟩) (t - f) (c - f) ((xs.drop f).take cnt) _ HRC5.out (fun h => by cases h) ((HX.out.drop f).take cnt) hcs).mono ?_; rintro r1 w5 ⟨v5, rfl, hown5, hb5⟩; obtain ⟨A5, c5, rfl, -, -⟩ := own_slice hown5; have m3 := (hb5.cell (p := ⟨b, o + 1, none⟩) hbw).trans m2; have HO5 := Lib.hid hown5; have HB5 := Lib.hid hb5; clear hown5 hb5)
    | (go_at_call 11; refine (same_any A5 (some ⟨b, o, none⟩) (frame y ((xs.drop f).take cnt)).length c5 al c _ w.heap.size (frame y ((xs.drop f).take cnt)) (xs.take al) _ HFL.out hale (Row.of_own HO5.out) (HRA.out.drew.below HB5.out)).mono ?_; rintro r2 w6 ⟨rfl, q, rfl⟩; have m4 : (w5.drewN q).cell? ⟨b, o + 1, none⟩ = some (.int .u8 y) := m3))
  have HBW : Hid (Below w.heap.size w (w5.drewN q)) := by
    have h := (Below.refl w.heap.size w).drew.trans HB5.out
    exact ⟨h.os, h.tape, h.output, h.size, h.block⟩
  have HRR := Lib.hid (HRC.out.below HBW.out)
  clear m2 m3 HRC5 HO5 HB5 HFL
  generalize w5.drewN q = w8 at *
  by_cases heq : frame y ((xs.drop f).take cnt) = xs.take al
  · have hdec : decide (frame y ((xs.drop f).take cnt) = xs.take al) = true := decide_eq_true heq
    have HT' := Lib.hid (HT.out.trans (if_neg (fun h => h heq)))
    rw [hdec]
    clear HT heq hdec
    go_wp2
    refine bodyPost_ret (results_tmp4 rfl _ _ _) rfl ?_
    rw [HT'.out]
    refine ⟨some ⟨b, o + f, none⟩, c - f, ?_, ?_, HBW.out, ⟨(fun h => nomatch h), ?_⟩⟩
    · simp only
      rw [HCL.out]
      rfl
    · simp only
      rw [HCL.out]
      exact HRR.out
    · simp only
      rw [HCL.out]
      omega
  · have hdec : decide (frame y ((xs.drop f).take cnt) = xs.take al) = false := decide_eq_false heq
    have HT' := Lib.hid (HT.out.trans (if_pos heq))
    rw [hdec]
    clear HT heq hdec
    go_wp2
    refine bodyPost_ret (results_tmp4 rfl _ _ _) rfl ?_
    rw [HT'.out]
    exact ⟨none, 0, rfl, Row.none_, HBW.out, Fit.none_⟩
end Go.Proofs.Ytmpihllcmdgapaa.Frm

/- What the reference's Take of layer 4 returns for any bytes, and both Wholes, as contracts over the program. -/
namespace Go.Proofs.Ytmpihllcmdgapaa.Frm
open Go.RowKit Var Crc Slc

set_option maxHeartbeats 1600000 in
set_option maxRecDepth 100000 in
theorem reftake_any (A : Option Addr) (n c : Nat) (xs : List Int) (w : World) (hr : Row .u8 w w.heap.size A n xs) (hx : Byt xs) (hn : n ≤ 4398046511104) (hcap : n ≤ c) (hc : c ≤ maxLen) :
    Calls Try.prog 57 #[.slice A n c] w (RTakes (took xs) w) := by
  have HR := Lib.hid hr
  have HX := Lib.hid hx
  have hlen := hr.len
  have hc' : c ≤ 9223372036854775807 := by unfold maxLen at hc; omega
  clear hr hx hc
  by_cases h0 : n = 0
  · subst h0
    have HT : Hid (took xs = (0, [], 0, 10)) := by unfold Hid took; rw [if_pos hlen]
    go_enter Try.func57, Try.ntmps57
    go_wp2
    refine bodyPost_ret (results_tmp4 rfl _ _ _) rfl ?_
    rw [HT.out]
    exact ⟨none, 0, rfl, Row.none_, Below.refl _ _, Fit.none_⟩
  obtain ⟨b, o, rfl, hbw, hcell0⟩ := HR.out.cell_at (show 0 < n by omega)
  rw [Nat.add_zero] at hcell0
  have hnb : ((n : Int) == 0) = false := beq_eq_false_iff_ne.2 (by omega)
  have hy := HX.out.getD 0
  by_cases h1 : ¬ xs.getD 0 0 = 199
  · have HT : Hid (took xs = (0, [], 0, 11)) := by unfold Hid took; rw [if_neg (by omega), if_pos h1]
    have hb1 : (xs.getD 0 0 == 199) = false := beq_eq_false_iff_ne.2 h1
    have hb2 : (xs.getD 0 0 != 199) = true := by rw [bne, hb1]; rfl
    generalize xs.getD 0 0 = y at *
    clear h1
    go_enter Try.func57, Try.ntmps57
    go_wp2
    refine bodyPost_ret (results_tmp4 rfl _ _ _) rfl ?_
    rw [HT.out]
    exact ⟨none, 0, rfl, Row.none_, Below.refl _ _, Fit.none_⟩
  have h1 : xs.getD 0 0 = 199 := Decidable.not_not.1 h1
  rw [h1] at hcell0
  by_cases h2 : n < 2
  · have HT : Hid (took xs = (0, [], 0, 10)) := by unfold Hid took; rw [if_neg (by omega), if_neg (by simp only [h1, ne_eq, not_true, not_false_iff]), if_pos (by omega)]
    clear h1 hy
    go_enter Try.func57, Try.ntmps57
    go_wp2
    refine bodyPost_ret (results_tmp4 rfl _ _ _) rfl ?_
    rw [HT.out]
    exact ⟨none, 0, rfl, Row.none_, Below.refl _ _, Fit.none_⟩
  by_cases hc2 : c = 2
  · subst hc2
    have hn2 : n = 2 := by omega
    subst hn2
    have hd : xs.drop 2 = [] := List.drop_eq_nil_of_le (by omega)
    have HT : Hid (took xs = (0, [], 0, 10)) := by
      unfold Hid took
      rw [if_neg (by omega), if_neg (by simp only [h1, ne_eq, not_true, not_false_iff]), if_neg (by omega), hd, if_pos (by simp [take])]
      rfl
    have HD : Hid (take 0 0 ([] : List Int) = (0, 0, 10)) := rfl
    clear h1 hy hd
    go_enter Try.func57, Try.ntmps57
    go_wp2_with fail
    refine (Var.reftake_any (some ⟨b, o, none⟩) 0 0 w.heap.size [] w Row.none_ (fun x hx => by simp at hx)).mono ?_
    rintro e1 w1 ⟨rfl, rfl⟩
    rw [HD.out]
    go_wp2
    refine bodyPost_ret (results_tmp4 rfl _ _ _) rfl ?_
    rw [HT.out]
    exact ⟨none, 0, rfl, Row.none_, Below.refl _ _, Fit.none_⟩
  have HR2 : Hid (Row .u8 w w.heap.size (some ⟨b, o + 2, none⟩) (n - 2) (xs.drop 2)) := by
    have := row_sub HR.out (lo := 2) (m := n - 2) (by omega)
    rwa [List.take_of_length_le (by simp; omega)] at this
  obtain ⟨cnt, sz, er, HK⟩ : ∃ cnt sz er, Hid (take 0 0 (xs.drop 2) = (cnt, sz, er)) := ⟨_, _, _, Lib.hid rfl⟩
  have hsz : er = 0 → sz ≤ n - 2 ∧ 0 < sz := by
    rintro rfl
    obtain ⟨m, _, _, h3, h4, _⟩ := put_take (xs.drop 2) 0 0 (HX.out.drop 2) (by rw [HK.out])
    rw [HK.out] at h3 h4
    simp at h3 h4
    omega
  by_cases hgood : er = 0 ∧ ¬ 1048576 < cnt ∧ ¬ n < 2 + sz + cnt + 4
  · obtain ⟨rfl, hcnt, hend⟩ := hgood
    exact reftake_good b o n c sz cnt (2 + sz) (2 + sz + cnt) (2 + sz + cnt + 4) xs w HR.out HX.out hn hcap hc' h1 hc2 HK.out (hsz rfl) hcnt rfl rfl rfl (by omega)
  go_enter Try.func57, Try.ntmps57
  go_wp2_with fail
  refine (Var.reftake_any (some ⟨b, o + 2, none⟩) (n - 2) (c - 2) w.heap.size (xs.drop 2) w HR2.out (HX.out.drop 2)).mono ?_
  rintro e1 w1 ⟨rfl, rfl⟩
  rw [HK.out]
  by_cases her : er ≠ 0
  · have HT : Hid (took xs = (0, [], 0, er)) := by
      unfold Hid took
      rw [if_neg (by omega), if_neg (by simp only [h1, ne_eq, not_true, not_false_iff]), if_neg (by omega), HK.out, if_pos her]
    have hb1 : ((er : Int) == 0) = false := beq_eq_false_iff_ne.2 (by omega)
    have hb2 : ((er : Int) != 0) = true := by rw [bne, hb1]; rfl
    clear h1 hy her
    go_wp2
    refine bodyPost_ret (results_tmp4 rfl _ _ _) rfl ?_
    rw [HT.out]
    exact ⟨none, 0, rfl, Row.none_, Below.refl _ _, Fit.none_⟩
  obtain rfl : er = 0 := by omega
  clear her
  have hsz := hsz rfl
  by_cases hcnt : 1048576 < cnt
  · have HT : Hid (took xs = (0, [], 0, 3)) := by
      unfold Hid took
      rw [if_neg (by omega), if_neg (by simp only [h1, ne_eq, not_true, not_false_iff]), if_neg (by omega), HK.out, if_neg (by simp), if_pos hcnt]
    have hd1 : (1048576 : Int) < (cnt : Int) := by omega
    clear h1 hy hcnt
    go_wp2
    refine bodyPost_ret (results_tmp4 rfl _ _ _) rfl ?_
    rw [HT.out]
    exact ⟨none, 0, rfl, Row.none_, Below.refl _ _, Fit.none_⟩
  have hto : Hid (to_ xs = 2 + sz + cnt) := by unfold Hid to_ from_; rw [HK.out]
  have hfrom : Hid (from_ xs = 2 + sz) := by unfold Hid from_; rw [HK.out]
  by_cases hend : n < 2 + sz + cnt + 4
  · have HT : Hid (took xs = (0, [], 0, 10)) := by
      unfold Hid took
      rw [if_neg (by omega), if_neg (by simp only [h1, ne_eq, not_true, not_false_iff]), if_neg (by omega), HK.out, if_neg (by simp), if_neg hcnt, hto.out, if_pos (by omega)]
    clear h1 hy
    go_wp2
    refine bodyPost_ret (results_tmp4 rfl _ _ _) rfl ?_
    rw [HT.out]
    exact ⟨none, 0, rfl, Row.none_, Below.refl _ _, Fit.none_⟩
  exact absurd ⟨rfl, hcnt, hend⟩ hgood

/-- What Whole returns. -/
def Wholes (t : List Int × Nat) (w : World) (e : Ending) (w' : World) : Prop :=
  ∃ v, e = .returned (.tuple #[v, .int .i64 (t.2 : Int)]) ∧ w'.ownsRow w.heap.size 5 1 v t.1.length (t.1.map (Value.int .u8)) ∧ Below w.heap.size w w'
def RWholes (t : List Int × Nat) (w : World) (e : Ending) (w' : World) : Prop :=
  ∃ A c, e = .returned (.tuple #[.slice A t.1.length c, .int .i64 (t.2 : Int)]) ∧ Row .u8 w' w.heap.size A t.1.length t.1 ∧ Below w.heap.size w w' ∧ Fit A t.1.length c

theorem wholly_of {k k' : Int} {b ys : List Int} {u er : Nat} (h : took b = (k', ys, u, er)) : wholly k b = if er ≠ 0 then ([], er) else if k' ≠ k then ([], 11) else if u < b.length then ([], 13) else (ys, 0) := by
  unfold wholly
  rw [h]

set_option maxHeartbeats 800000 in
set_option maxRecDepth 100000 in
theorem whole_any (k : Int) (A : Option Addr) (n c : Nat) (xs : List Int) (w : World) (hr : Row .u8 w w.heap.size A n xs) (hnil : A = none → c = 0) (hx : Byt xs) (hn : n ≤ 4398046511104) (hcap : n ≤ c) (hc : c ≤ maxLen) :
    Calls Try.prog 26 #[.int .u8 k, .slice A n c] w (Wholes (wholly k xs) w) := by
  have hlen := hr.len
  have H := Lib.hid (take_any A n c xs w hr hnil hx hn hcap hc)
  obtain ⟨k', ys, u, er, HK⟩ : ∃ k' ys u er, Hid (took xs = (k', ys, u, er)) := ⟨_, _, _, _, Lib.hid rfl⟩
  have HW := Lib.hid (wholly_of (k := k) HK.out)
  rw [HK.out] at H
  rw [hlen] at HW
  clear hr hx
  go_enter Try.func26, Try.ntmps26
  go_wp2_with fail
  refine H.out.mono ?_
  rintro e1 w1 ⟨v1, rfl, hown1, hb1⟩
  have HO1 := Lib.hid hown1
  have HB1 := Lib.hid hb1
  clear hown1 hb1 H hnil
  by_cases her : er ≠ 0
  · have HT := Lib.hid (HW.out.trans (if_pos her))
    have hb1 : ((er : Int) == 0) = false := beq_eq_false_iff_ne.2 (by omega)
    have hb2 : ((er : Int) != 0) = true := by rw [bne, hb1]; rfl
    clear her HW
    go_wp2
    go_ret2
    rw [HT.out]
    exact ⟨_, rfl, World.ownsRow_nil _ _ _ _, HB1.out⟩
  obtain rfl : er = 0 := by omega
  have HW := Lib.hid (HW.out.trans (if_neg her))
  clear her
  by_cases hk : k' ≠ k
  · have HT := Lib.hid (HW.out.trans (if_pos hk))
    have hb1 : (k' == k) = false := beq_eq_false_iff_ne.2 hk
    have hb2 : (k' != k) = true := by rw [bne, hb1]; rfl
    clear hk HW
    go_wp2
    go_ret2
    rw [HT.out]
    exact ⟨_, rfl, World.ownsRow_nil _ _ _ _, HB1.out⟩
  obtain rfl : k' = k := Decidable.not_not.1 hk
  have HW := Lib.hid (HW.out.trans (if_neg hk))
  clear hk
  by_cases hu : u < n
  · have HT := Lib.hid (HW.out.trans (if_pos hu))
    have hu' : (u : Int) < (n : Int) := by omega
    clear HW
    go_wp2
    go_ret2
    rw [HT.out]
    exact ⟨_, rfl, World.ownsRow_nil _ _ _ _, HB1.out⟩
  · have HT := Lib.hid (HW.out.trans (if_neg hu))
    have hu' : ¬ (u : Int) < (n : Int) := by omega
    clear HW
    go_wp2
    go_ret2
    rw [HT.out]
    exact ⟨_, rfl, HO1.out, HB1.out⟩

set_option maxHeartbeats 800000 in
set_option maxRecDepth 100000 in
theorem refwhole_any (k : Int) (A : Option Addr) (n c : Nat) (xs : List Int) (w : World) (hr : Row .u8 w w.heap.size A n xs) (hx : Byt xs) (hn : n ≤ 4398046511104) (hcap : n ≤ c) (hc : c ≤ maxLen) :
    Calls Try.prog 31 #[.int .u8 k, .slice A n c] w (RWholes (wholly k xs) w) := by
  have hlen := hr.len
  have H := Lib.hid (reftake_any A n c xs w hr hx hn hcap hc)
  obtain ⟨k', ys, u, er, HK⟩ : ∃ k' ys u er, Hid (took xs = (k', ys, u, er)) := ⟨_, _, _, _, Lib.hid rfl⟩
  have HW := Lib.hid (wholly_of (k := k) HK.out)
  rw [HK.out] at H
  rw [hlen] at HW
  clear hr hx
  go_enter Try.func31, Try.ntmps31
  go_wp2_with fail
  refine H.out.mono ?_
  rintro e1 w1 ⟨A1, c1, rfl, hrow1, hb1, hf1⟩
  have HO1 := Lib.hid hrow1
  have HB1 := Lib.hid hb1
  have HF1 := Lib.hid hf1
  clear hrow1 hb1 hf1 H
  by_cases her : er ≠ 0
  · have HT := Lib.hid (HW.out.trans (if_pos her))
    have hb1 : ((er : Int) == 0) = false := beq_eq_false_iff_ne.2 (by omega)
    have hb2 : ((er : Int) != 0) = true := by rw [bne, hb1]; rfl
    clear her HW
    go_wp2
    go_ret2
    rw [HT.out]
    exact ⟨none, 0, rfl, Row.none_, HB1.out, Fit.none_⟩
  obtain rfl : er = 0 := by omega
  have HW := Lib.hid (HW.out.trans (if_neg her))
  clear her
  by_cases hk : k' ≠ k
  · have HT := Lib.hid (HW.out.trans (if_pos hk))
    have hb1 : (k' == k) = false := beq_eq_false_iff_ne.2 hk
    have hb2 : (k' != k) = true := by rw [bne, hb1]; rfl
    clear hk HW
    go_wp2
    go_ret2
    rw [HT.out]
    exact ⟨none, 0, rfl, Row.none_, HB1.out, Fit.none_⟩
  obtain rfl : k' = k := Decidable.not_not.1 hk
  have HW := Lib.hid (HW.out.trans (if_neg hk))
  clear hk
  by_cases hu : u < n
  · have HT := Lib.hid (HW.out.trans (if_pos hu))
    have hu' : (u : Int) < (n : Int) := by omega
    clear HW
    go_wp2
    go_ret2
    rw [HT.out]
    exact ⟨none, 0, rfl, Row.none_, HB1.out, Fit.none_⟩
  · have HT := Lib.hid (HW.out.trans (if_neg hu))
    have hu' : ¬ (u : Int) < (n : Int) := by omega
    clear HW
    go_wp2
    go_ret2
    rw [HT.out]
    exact ⟨A1, c1, rfl, HO1.out, HB1.out, HF1.out⟩
end Go.Proofs.Ytmpihllcmdgapaa.Frm

/- Layer 5 (sample): the Reader of layer 3 with a bound from below on its bytes, so that what lies before it may turn; its Number, Signed, Error and Read, as contracts. -/
namespace Go.Proofs.Ytmpihllcmdgapaa.Smp
open Go.RowKit Var Fld

/-- A Reader: what is left of its bytes, which lie at or beyond lo, and its first error. -/
structure Rdl (w : World) (g lo : Nat) (xs : List Int) (e : Nat) : Prop where
  ex : ∃ A n c, Rd w g A n c e ∧ Row .u8 w g A n xs ∧ n ≤ c ∧ (A = none → c = 0) ∧ (∀ b o, A = some ⟨b, o, none⟩ → lo ≤ b)
  byt : ∀ x ∈ xs, 0 ≤ x ∧ x ≤ 255
  low : lo ≤ g

theorem Rdl.rdr {w : World} {g lo e : Nat} {xs : List Int} (h : Rdl w g lo xs e) : Rdr w g xs e := by
  obtain ⟨A, n, c, h1, h2, h3, h4, _⟩ := h.ex
  exact ⟨⟨A, n, c, h1, h2, h3, h4⟩, h.byt⟩
theorem Rdl.lt {w : World} {g lo e : Nat} {xs : List Int} (h : Rdl w g lo xs e) : g < w.heap.size := h.rdr.lt
theorem Rdl.only {M : Nat → Prop} {w w' : World} {g lo e : Nat} {xs : List Int} (h : Rdl w g lo xs e) (ho : Only M w w') (hM : ∀ k, lo ≤ k → k ≤ g → ¬ M k) : Rdl w' g lo xs e := by
  obtain ⟨A, n, c, h1, h2, h3, h4, h5⟩ := h.ex
  have hg := h.lt
  exact ⟨⟨A, n, c, ⟨ho.at h1.blk (hM g h.low (Nat.le_refl _))⟩, ho.row h2 (Nat.le_of_lt hg) (fun b o e hb => hM b (h5 b o e) (by omega)), h3, h4, h5⟩, h.byt, h.low⟩
theorem Rdl.below {w w' : World} {g lo e : Nat} {xs : List Int} (h : Rdl w g lo xs e) (hb : Below w.heap.size w w') : Rdl w' g lo xs e :=
  h.only (M := fun _ => False) (Only.of_below hb) (fun _ _ _ h => h)

/-- What a step leaves. -/
def StepL (w : World) (g lo : Nat) (xs : List Int) (e : Nat) (t : Int × Nat × Nat) (r : Ending) (w' : World) : Prop :=
  r = .returned (.int .i64 (val e t)) ∧ Rdl w' g lo (after xs e t.2.1 t.2.2).1 (after xs e t.2.1 t.2.2).2 ∧ Only (fun k => k = g) w w'

theorem stepL_ok {w w2 w1 w' : World} {g lo n c : Nat} {A : Option Addr} {xs : List Int} {t : Int × Nat × Nat} {v : Value} {r : Ending} (h1 : Rd w g A n c 0) (h2 : Row .u8 w g A n xs) (h3 : n ≤ c) (h4 : A = none → c = 0) (h5 : ∀ b o, A = some ⟨b, o, none⟩ → lo ≤ b) (hlow : lo ≤ g) (hbyt : ∀ x ∈ xs, 0 ≤ x ∧ x ≤ 255)
    (hb2 : Below w.heap.size w w2) (hv : v = .int .i64 t.1) (h : ReadsTo w2 g A n c (.int .i64 0) v t.2.1 t.2.2 w1 r w') : StepL w g lo xs 0 t r w' := by
  obtain ⟨a, b, c'⟩ := steps_ok (k := .i64) (t := t) h1 h2 h3 h4 hbyt hb2 hv h
  refine ⟨a, ?_, c'⟩
  obtain ⟨ok, bad, ho, hb⟩ := h
  have hlt : g < w.heap.size := lt_of_block h1.blk
  have hr : Row .u8 w' g A n xs := c'.row h2 (Nat.le_of_lt hlt) (fun b _ _ hb e => by omega)
  by_cases he : t.2.2 = 0
  · obtain ⟨hv', b, o, o', rfl, hrd, hoo⟩ := ok he
    have : after xs 0 t.2.1 t.2.2 = (xs.drop t.2.1, 0) := by unfold after; simp [he]
    rw [this]
    exact ⟨⟨_, _, _, hrd, Row.drop hr hoo, by omega, (fun h => by cases h), fun b1 o1 e1 => by injection e1 with e1; injection e1 with e1; subst e1; exact h5 _ _ rfl⟩, fun x hx => hbyt x (List.mem_of_mem_drop hx), hlow⟩
  · obtain ⟨hv', hrd⟩ := bad he
    have : after xs 0 t.2.1 t.2.2 = (xs, t.2.2) := by unfold after; simp [he]
    rw [this]
    exact ⟨⟨_, _, _, hrd, hr, h3, h4, h5⟩, hbyt, hlow⟩

theorem stepL_bad {w w2 : World} {g lo e : Nat} {xs : List Int} {t : Int × Nat × Nat} (h : Rdl w g lo xs e) (he : e ≠ 0) (hb2 : Below w.heap.size w w2) : StepL w g lo xs e t (.returned (.int .i64 0)) w2 := by
  have e1 : after xs e t.2.1 t.2.2 = (xs, e) := by unfold after; rw [if_pos he]
  refine ⟨?_, by rw [e1]; exact h.below hb2, Only.of_below hb2⟩
  unfold val
  rw [if_pos (.inl he)]

set_option maxHeartbeats 800000 in
set_option maxRecDepth 100000 in
theorem numberL (g lo e : Nat) (xs : List Int) (most : Int) (w : World) (h : Rdl w g lo xs e) (h1 : -9223372036854775808 ≤ most) (h2 : most ≤ 9223372036854775807) :
    Calls Try.prog 28 #[.pointer (some ⟨g, 0, none⟩), .int .i64 most] w (StepL w g lo xs e (nxt xs most)) := by
  have HR := Lib.hid h
  have H1 := Lib.hid h1
  have H2 := Lib.hid h2
  clear h h1 h2
  have hb2 : Hid (Below w.heap.size w (w.alloc (.cells #[.int .i64 most] 3))) := ((Below.refl _ _).alloc (Nat.le_refl _) _)
  have hcell : Hid ((w.alloc (.cells #[.int .i64 most] 3)).cell? ⟨w.heap.size, 0, none⟩ = some (.int .i64 most)) := cell_of_one (heap_alloc_new w _)
  have hmf : ∀ (fn : Fn) (first cap : Array Value) (w : World), (Instr.makeFunc fn first cap).run Try.prog w = .ok (.func fn first cap) w := fun _ _ _ _ => rfl
  have fin : Calls Try.prog 53 #[.pointer (some ⟨g, 0, none⟩), .func (.func 54) #[] #[.pointer (some ⟨w.heap.size, 0, none⟩)]] (w.alloc (.cells #[.int .i64 most] 3)) (StepL w g lo xs e (nxt xs most)) := by
    obtain ⟨A, n, c, hrd, hrow, hnc, hnil, hlo⟩ := HR.out.ex
    have hlt : g < w.heap.size := HR.out.lt
    have hlen := hrow.len
    by_cases he : e = 0
    · subst he
      refine (next_int g n c A 54 (.pointer (some ⟨w.heap.size, 0, none⟩)) (fun v _ => v = .int .i64 (nxt xs most).1) (nxt xs most).2.1 (nxt xs most).2.2 _ (hrd.below hb2.out) hnc (fun h => by have := nxt_ok (most := most) HR.out.byt h; omega) (fun h => Row.some_of hrow h) ent_number (how_number A n c g _ xs most _ (hrow.alloc (Nat.le_of_lt hlt) _) HR.out.byt H1.out H2.out hcell.out)).mono ?_
      rintro r w' ⟨v, w1, hv, hR⟩
      exact stepL_ok hrd hrow hnc hnil hlo HR.out.low HR.out.byt hb2.out hv hR
    · refine (next_int_bad g n c A e _ _ (hrd.below hb2.out) (by omega)).mono ?_
      rintro r w' ⟨rfl, rfl⟩
      exact stepL_bad HR.out he hb2.out
  have FIN := Lib.hid fin
  clear fin hb2 hcell
  go_enter Try.func28, Try.ntmps28
  go_wp2_with fail
  refine FIN.out.mono ?_
  rintro r w' hst
  obtain ⟨u, hu⟩ : ∃ u, r = .returned u := ⟨_, hst.1⟩
  subst hu
  have HST := Lib.hid hst
  clear hst
  go_wp2
  go_ret
  exact HST.out

set_option maxHeartbeats 800000 in
set_option maxRecDepth 100000 in
theorem signedL (g lo e : Nat) (xs : List Int) (most : Int) (w : World) (h : Rdl w g lo xs e) (h1 : -9223372036854775808 ≤ most) (h2 : most ≤ 9223372036854775807) :
    Calls Try.prog 71 #[.pointer (some ⟨g, 0, none⟩), .int .i64 most] w (StepL w g lo xs e (nxs xs most)) := by
  have HR := Lib.hid h
  have H1 := Lib.hid h1
  have H2 := Lib.hid h2
  clear h h1 h2
  have hb2 : Hid (Below w.heap.size w (w.alloc (.cells #[.int .i64 most] 3))) := ((Below.refl _ _).alloc (Nat.le_refl _) _)
  have hcell : Hid ((w.alloc (.cells #[.int .i64 most] 3)).cell? ⟨w.heap.size, 0, none⟩ = some (.int .i64 most)) := cell_of_one (heap_alloc_new w _)
  have hmf : ∀ (fn : Fn) (first cap : Array Value) (w : World), (Instr.makeFunc fn first cap).run Try.prog w = .ok (.func fn first cap) w := fun _ _ _ _ => rfl
  have fin : Calls Try.prog 53 #[.pointer (some ⟨g, 0, none⟩), .func (.func 77) #[] #[.pointer (some ⟨w.heap.size, 0, none⟩)]] (w.alloc (.cells #[.int .i64 most] 3)) (StepL w g lo xs e (nxs xs most)) := by
    obtain ⟨A, n, c, hrd, hrow, hnc, hnil, hlo⟩ := HR.out.ex
    have hlt : g < w.heap.size := HR.out.lt
    have hlen := hrow.len
    by_cases he : e = 0
    · subst he
      refine (next_int g n c A 77 (.pointer (some ⟨w.heap.size, 0, none⟩)) (fun v _ => v = .int .i64 (nxs xs most).1) (nxs xs most).2.1 (nxs xs most).2.2 _ (hrd.below hb2.out) hnc (fun h => by have := nxs_ok (most := most) HR.out.byt h; omega) (fun h => Row.some_of hrow h) ent_signed (how_signed A n c g _ xs most _ (hrow.alloc (Nat.le_of_lt hlt) _) HR.out.byt H1.out H2.out hcell.out)).mono ?_
      rintro r w' ⟨v, w1, hv, hR⟩
      exact stepL_ok hrd hrow hnc hnil hlo HR.out.low HR.out.byt hb2.out hv hR
    · refine (next_int_bad g n c A e _ _ (hrd.below hb2.out) (by omega)).mono ?_
      rintro r w' ⟨rfl, rfl⟩
      exact stepL_bad HR.out he hb2.out
  have FIN := Lib.hid fin
  clear fin hb2 hcell
  go_enter Try.func71, Try.ntmps71
  go_wp2_with fail
  refine FIN.out.mono ?_
  rintro r w' hst
  obtain ⟨u, hu⟩ : ∃ u, r = .returned u := ⟨_, hst.1⟩
  subst hu
  have HST := Lib.hid hst
  clear hst
  go_wp2
  go_ret
  exact HST.out

/-- The three of a step. -/
theorem stepT (g lo : Nat) (xs : List Int) (w : World) (h : Rdl w g lo xs 0) : Calls Try.prog 28 #[.pointer (some ⟨g, 0, none⟩), .int .i64 1099511627776] w fun r w' =>
    r = .returned (.int .i64 (tT xs)) ∧ Rdl w' g lo (r1 xs).1 (r1 xs).2 ∧ Only (fun k => k = g) w w' := numberL g lo 0 xs 1099511627776 w h (by omega) (by omega)
theorem stepX (g lo : Nat) (xs : List Int) (w : World) (h : Rdl w g lo (r1 xs).1 (r1 xs).2) : Calls Try.prog 71 #[.pointer (some ⟨g, 0, none⟩), .int .i64 67108864] w fun r w' =>
    r = .returned (.int .i64 (tX xs)) ∧ Rdl w' g lo (r2 xs).1 (r2 xs).2 ∧ Only (fun k => k = g) w w' := signedL g lo (r1 xs).2 (r1 xs).1 67108864 w h (by omega) (by omega)
theorem stepY (g lo : Nat) (xs : List Int) (w : World) (h : Rdl w g lo (r2 xs).1 (r2 xs).2) : Calls Try.prog 71 #[.pointer (some ⟨g, 0, none⟩), .int .i64 67108864] w fun r w' =>
    r = .returned (.int .i64 (tY xs)) ∧ Rdl w' g lo (r3 xs).1 (r3 xs).2 ∧ Only (fun k => k = g) w w' := signedL g lo (r2 xs).2 (r2 xs).1 67108864 w h (by omega) (by omega)

set_option maxHeartbeats 800000 in
set_option maxRecDepth 100000 in
theorem readL (A : Option Addr) (n c B : Nat) (xs : List Int) (w : World) (h : Row .u8 w B A n xs) (hB : B ≤ w.heap.size) (hnil : A = none → c = 0) (hn : n ≤ 4398046511104) (hbyt : ∀ x ∈ xs, 0 ≤ x ∧ x ≤ 255) :
    Calls Try.prog 27 #[.slice A n c] w fun r w' => ∃ g, r = .returned (.pointer (some ⟨g, 0, none⟩)) ∧ Rdl w' g w.heap.size xs 0 ∧ Below w.heap.size w w' := by
  have H := Lib.hid h
  have HB := Lib.hid hB
  have HN := Lib.hid hnil
  have HY := Lib.hid hbyt
  clear h hB hnil hbyt
  go_enter Try.func27, Try.ntmps27
  go_wp2_with fail
  refine (clone_any A n c B xs w H.out HB.out HN.out hn).mono ?_
  rintro r w1 ⟨v, rfl, hown, hb⟩
  obtain ⟨A1, c1, rfl, hc1, hnil1⟩ := own_slice hown
  have hlo : ∀ b o, A1 = some ⟨b, o, none⟩ → w.heap.size ≤ b := by
    intro b o e
    subst e
    rcases hown.2 with ⟨h0, _⟩ | ⟨g, cap, cur, h0, h1, _⟩
    · cases h0
    · injection h0 with h0
      injection h0 with h0
      injection h0 with h0
      subst h0
      exact h1
  have HO := Lib.hid hown
  have HBL := Lib.hid hb
  have HN1 := Lib.hid hnil1
  have HC := Lib.hid hc1
  have HLO := Lib.hid hlo
  clear hown hb hnil1 hc1 hlo
  go_wp2
  go_ret
  exact ⟨w1.heap.size, rfl, ⟨⟨A1, n, c1, ⟨heap_alloc_new w1 _⟩, (Row.of_own HO.out).alloc (Nat.le_refl _) _, HC.out, HN1.out, HLO.out⟩, HY.out, HBL.out.size⟩, HBL.out.alloc HBL.out.size _⟩
end Go.Proofs.Ytmpihllcmdgapaa.Smp

/- Layer 5 (sample): the iterator read, as a contract: what each round is asked at, and how it ends. -/
namespace Go.Proofs.Ytmpihllcmdgapaa.Smp
open Go.RowKit Var Fld

attribute [local go_sem] Oper.semAt_some

set_option maxRecDepth 100000 in
theorem read_any (g : Nat) (n : Int) (w : World) : Calls Try.prog 56 #[.pointer (some ⟨g, 0, none⟩), .int .i64 n] w fun e w' =>
    e = .returned (.func (.func 70) #[] #[.pointer (some ⟨w.heap.size + 1, 0, none⟩), .pointer (some ⟨w.heap.size, 0, none⟩)]) ∧ w' = (w.alloc (.cells #[.pointer (some ⟨g, 0, none⟩)] 49)).alloc (.cells #[.int .i64 n] 3) := by
  have hmf : ∀ (fn : Fn) (first cap : Array Value) (w : World), (Instr.makeFunc fn first cap).run Try.prog w = .ok (.func fn first cap) w := fun _ _ _ _ => rfl
  go_enter Try.func56, Try.ntmps56
  go_wp2
  go_ret
  exact ⟨rfl, rfl⟩

/-- What a round is handed. -/
def tripV (xs : List Int) : Array Value := #[.agg #[.int .i64 (tT xs), .int .i64 (tX xs), .int .i64 (tY xs)]]

/-- How the iterator ends. -/
def ReadEnd (g lo n : Nat) (bs : List Int) (J : List S → World → Prop) (Jx : World → Prop) (e : Ending) (w : World) : Prop :=
  (∃ v, e = .returned v) ∧ ((∃ acc xs, tk n [] bs = (acc, xs, 0) ∧ good acc = true ∧ J acc w ∧ Rdl w g lo xs 0) ∨ (∃ acc xs er, er ≠ 0 ∧ (tk n [] bs).2.2 = er ∧ J acc w ∧ Rdl w g lo xs er) ∨ ((tk n [] bs).2.2 = 2 ∧ Jx w))

set_option maxHeartbeats 1600000 in
set_option maxRecDepth 100000 in
theorem read_run (m l Bn Br g lo n : Nat) (bs : List Int) (J : List S → World → Prop) (Jx : World → Prop) (W1 : World) (hn : n ≤ 2048)
    (hbn : W1.cell? ⟨Bn, 0, none⟩ = some (.int .i64 (n : Int))) (hbr : ∀ acc W, J acc W → W.cell? ⟨Br, 0, none⟩ = some (.pointer (some ⟨g, 0, none⟩)))
    (hJ : ∀ acc W W', J acc W → Only (fun i => i = g) W W' → J acc W')
    (hY : ∀ acc xs W, acc.length < n → good acc = true → (∀ x ∈ xs, 0 ≤ x ∧ x ≤ 255) → (r3 xs).2 = 0 → J acc W → Rdl W g lo (r3 xs).1 0 → YieldAt Fence.wide m Try.prog l (tripV xs) W fun e W' =>
      (e = .returned (.bool true) ∧ okp acc (nx acc xs) = true ∧ J (acc ++ [nx acc xs]) W' ∧ Rdl W' g lo (r3 xs).1 0) ∨ (e = .returned (.bool false) ∧ okp acc (nx acc xs) = false ∧ Jx W'))
    (h0 : J [] W1) (hr0 : Rdl W1 g lo bs 0) :
    CallsIn Fence.wide (m + 1) Try.prog 70 #[.func (.yield l) #[] #[], .pointer (some ⟨Bn, 0, none⟩), .pointer (some ⟨Br, 0, none⟩)] W1 (ReadEnd g lo n bs J Jx) := by
  have HBR := Lib.hid hbr
  have HJ := Lib.hid hJ
  have HY := Lib.hid hY
  have H0 := Lib.hid h0
  have HR0 := Lib.hid hr0
  clear hbr hJ hY h0 hr0
  refine callsIn_of_wp Try.func70 rfl trivial ?_ rfl
  simp only [Try.ntmps70, List.size_toArray, List.length_cons, List.length_nil, Nat.reduceAdd, Nat.reduceSub, Array.replicate_succ, Array.replicate_zero, List.push_toArray, List.append_toArray, List.nil_append, List.cons_append]
  gi_wp2
  gi_loopw [6] (fun i wr => ∃ (k : Nat) (acc : List S) (xs : List Int), k ≤ n ∧ i = .int .i64 (k : Int) ∧ acc.length = k ∧ Hid (good acc = true) ∧ Hid (J acc wr) ∧ Hid (Rdl wr g lo xs 0) ∧ Hid (tk (n - k) acc xs = tk n [] bs)) (fun i _ => n - (intOf i).toNat)
  case atStart => exact ⟨0, [], bs, Nat.zero_le _, rfl, rfl, rfl, H0.out, HR0.out, rfl⟩
  case round =>
    obtain ⟨k, acc, xs, hk, rfl, hacc, HG, HK, HR, HT⟩ := hrel
    by_cases hlt : k < n
    · have hkw : IntKind.i64.wrap ((k : Int) + 1) = (k : Int) + 1 := IntWalk.i64_in _ ⟨by omega, by omega⟩
      have htk : tk (n - k) acc xs = if (r3 xs).2 ≠ 0 then ([], [], (r3 xs).2) else if okp acc (nx acc xs) = true then tk (n - (k + 1)) (acc ++ [nx acc xs]) (r3 xs).1 else ([], [], 2) := by
        rw [show n - k = (n - (k + 1)) + 1 by omega]
        rfl
      have HTK := Lib.hid (HT.out.symm.trans htk)
      clear htk HT
      have hgl : g < wr.heap.size := HR.out.lt
      have hfb : g ≠ wr.heap.size := by omega
      have HA : Hid ((wr.alloc (.cells #[.int .i64 0, .int .i64 0, .int .i64 0] 91)).heap[wr.heap.size]? = some (.cells #[.int .i64 0, .int .i64 0, .int .i64 0] 91 (0, 0))) := heap_alloc_new wr _
      have HOA : Hid (Only (fun i => i = g) wr (wr.alloc (.cells #[.int .i64 0, .int .i64 0, .int .i64 0] 91))) := Only.alloc _ _
      have q0 := HBR.out acc _ (HJ.out acc _ _ HK.out HOA.out)
      have HRA := Lib.hid (HR.out.below ((Below.refl _ _).alloc (Nat.le_refl _) (.cells #[.int .i64 0, .int .i64 0, .int .i64 0] 91)))
      gi_wp2_with fail
      obtain ⟨fb, hfbe⟩ : ∃ fb, wr.heap.size = fb := ⟨_, rfl⟩
      rw [hfbe] at HA hfb hgl
      generalize wr.alloc (.cells #[.int .i64 0, .int .i64 0, .int .i64 0] 91) = wA at HA HOA q0 HRA ⊢
      rw [hfbe]
      refine ⟨trivial, ?_⟩
      refine (callsIn_wide.2 (stepT g lo xs _ HRA.out)).mono ?_
      rintro e5 w5 ⟨rfl, hr5, ho5⟩
      have hb5 := ho5.at HA.out (fun h => hfb h.symm)
      have c5 : w5.cell? ⟨fb, 0, none⟩ = some (.int .i64 0) := cell_of_blk hb5 rfl
      have f5 : w5.frozen? ⟨fb, 0, none⟩ = false := free_of_blk hb5
      have HB5 : Hid ((w5.setCell ⟨fb, 0, none⟩ (.int .i64 (tT xs))).heap[fb]? = some (.cells #[.int .i64 (tT xs), .int .i64 0, .int .i64 0] 91 (0, 0))) := set_blk (j := 0) (u := .int .i64 (tT xs)) hb5
      have HR5 : Hid (Rdl (w5.setCell ⟨fb, 0, none⟩ (.int .i64 (tT xs))) g lo (r1 xs).1 (r1 xs).2) := hr5.only (Only.setCell w5 ⟨fb, 0, none⟩ _) (fun k _ h1 h2 => by have h2 : k = fb := h2; omega)
      have HO5 : Hid (Only (fun i => i = g) wr (w5.setCell ⟨fb, 0, none⟩ (.int .i64 (tT xs)))) := (HOA.out.trans ho5 (fun _ _ h => h)).trans (Only.setCell w5 ⟨fb, 0, none⟩ _) (fun i h1 h2 => by have h2 : i = fb := h2; omega)
      have q5 := HBR.out acc _ (HJ.out acc _ _ HK.out HO5.out)
      clear hr5 ho5 hb5
      gi_wp2_with fail
      refine ⟨trivial, ?_⟩
      refine (callsIn_wide.2 (stepX g lo xs _ HR5.out)).mono ?_
      rintro e6 w6 ⟨rfl, hr6, ho6⟩
      have hb6 := ho6.at HB5.out (fun h => hfb h.symm)
      have c6 : w6.cell? ⟨fb, 1, none⟩ = some (.int .i64 0) := cell_of_blk hb6 rfl
      have f6 : w6.frozen? ⟨fb, 1, none⟩ = false := free_of_blk hb6
      have HB6 : Hid ((w6.setCell ⟨fb, 1, none⟩ (.int .i64 (tX xs))).heap[fb]? = some (.cells #[.int .i64 (tT xs), .int .i64 (tX xs), .int .i64 0] 91 (0, 0))) := set_blk (j := 1) (u := .int .i64 (tX xs)) hb6
      have HR6 : Hid (Rdl (w6.setCell ⟨fb, 1, none⟩ (.int .i64 (tX xs))) g lo (r2 xs).1 (r2 xs).2) := hr6.only (Only.setCell w6 ⟨fb, 1, none⟩ _) (fun k _ h1 h2 => by have h2 : k = fb := h2; omega)
      have HO6 : Hid (Only (fun i => i = g) wr (w6.setCell ⟨fb, 1, none⟩ (.int .i64 (tX xs)))) := (HO5.out.trans ho6 (fun _ _ h => h)).trans (Only.setCell w6 ⟨fb, 1, none⟩ _) (fun i h1 h2 => by have h2 : i = fb := h2; omega)
      have q6 := HBR.out acc _ (HJ.out acc _ _ HK.out HO6.out)
      clear hr6 ho6 hb6
      clear q0 q5 c5 f5 HB5 HR5 HO5 HRA HOA HA
      gi_wp2_with fail
      refine ⟨trivial, ?_⟩
      refine (callsIn_wide.2 (stepY g lo xs _ HR6.out)).mono ?_
      rintro e7 w7 ⟨rfl, hr7, ho7⟩
      have hb7 := ho7.at HB6.out (fun h => hfb h.symm)
      have c7 : w7.cell? ⟨fb, 2, none⟩ = some (.int .i64 0) := cell_of_blk hb7 rfl
      have f7 : w7.frozen? ⟨fb, 2, none⟩ = false := free_of_blk hb7
      have HB7 : Hid ((w7.setCell ⟨fb, 2, none⟩ (.int .i64 (tY xs))).heap[fb]? = some (.cells #[.int .i64 (tT xs), .int .i64 (tX xs), .int .i64 (tY xs)] 91 (0, 0))) := set_blk (j := 2) (u := .int .i64 (tY xs)) hb7
      have HR7 : Hid (Rdl (w7.setCell ⟨fb, 2, none⟩ (.int .i64 (tY xs))) g lo (r3 xs).1 (r3 xs).2) := hr7.only (Only.setCell w7 ⟨fb, 2, none⟩ _) (fun k _ h1 h2 => by have h2 : k = fb := h2; omega)
      have HO7 : Hid (Only (fun i => i = g) wr (w7.setCell ⟨fb, 2, none⟩ (.int .i64 (tY xs)))) := (HO6.out.trans ho7 (fun _ _ h => h)).trans (Only.setCell w7 ⟨fb, 2, none⟩ _) (fun i h1 h2 => by have h2 : i = fb := h2; omega)
      have q7 := HBR.out acc _ (HJ.out acc _ _ HK.out HO7.out)
      clear hr7 ho7 hb7
      clear q6 c6 f6 HB6 HR6 HO6
      have z0 := cell_of_blk (j := 0) HB7.out rfl
      have z1 := cell_of_blk (j := 1) HB7.out rfl
      have z2 := cell_of_blk (j := 2) HB7.out rfl
      have HJ7 := Lib.hid (HJ.out acc _ _ HK.out HO7.out)
      gi_wp2_with fail
      refine ⟨trivial, ?_⟩
      refine (callsIn_wide.2 (errorR g _ _ _ HR7.out.rdr)).mono ?_
      rintro e8 w8 ⟨rfl, rfl⟩
      by_cases her : (r3 xs).2 = 0
      · have hez : (((r3 xs).2 : Int) == 0) = true := beq_iff_eq.2 (by omega)
        have HER := Lib.hid her
        have htk2 := HTK.out
        rw [if_neg (by rw [her]; simp)] at htk2
        have HTK2 := Lib.hid htk2
        have HR8 := HR7
        rw [her] at HR8
        obtain ⟨fn, tmps, assign, body, hy, hR⟩ := HY.out acc xs _ (by omega) HG.out HR.out.byt her HJ7.out HR8.out
        unfold tripV at hy
        have HRR := Lib.hid hR
        clear hR htk2 her HTK
        gi_wp2
        refine HRR.out.mono ?_
        rintro e9 w9 (⟨rfl, hok, hj9, hr9⟩ | ⟨rfl, hok, hj9⟩)
        · have HJ9 := Lib.hid hj9
          have HR9 := Lib.hid hr9
          have HT9 : Hid (tk (n - (k + 1)) (acc ++ [nx acc xs]) (r3 xs).1 = tk n [] bs) := by
            have := HTK2.out
            rw [if_pos hok] at this
            exact this.symm
          have HG9 := Lib.hid (good_snoc HG.out hok)
          clear hj9 hr9 hok hy z0 z1 z2 q7 c7 f7
          gi_wp2
          go_roundw
          case rel => exact ⟨k + 1, acc ++ [nx acc xs], (r3 xs).1, by omega, by go_num, by simp [hacc], HG9.out, HJ9.out, HR9.out, HT9.out⟩
          case measure => simp [intOf]; omega
        · have HJ9 := Lib.hid hj9
          have HT9 : Hid ((tk n [] bs).2.2 = 2) := by
            have := HTK2.out
            rw [if_neg (by rw [hok]; simp)] at this
            unfold Hid
            rw [this]
          clear hj9 hok hy z0 z1 z2 q7 c7 f7
          gi_wp2
          refine bodyPost_ret (results_none rfl _ _ _) rfl ?_
          exact ⟨⟨_, rfl⟩, .inr (.inr ⟨HT9.out, HJ9.out⟩)⟩
      · have hez : (((r3 xs).2 : Int) == 0) = false := beq_eq_false_iff_ne.2 (by omega)
        have HT9 : Hid ((tk n [] bs).2.2 = (r3 xs).2) := by
          have := HTK.out
          rw [if_pos her] at this
          unfold Hid
          rw [this]
        have HER := Lib.hid her
        clear her HTK
        gi_wp2
        refine ⟨fun _ h => (by cases h), ?_⟩
        gi_wp2
        refine bodyPost_ret (results_none rfl _ _ _) rfl ?_
        exact ⟨⟨_, rfl⟩, .inr (.inl ⟨acc, (r3 xs).1, (r3 xs).2, HER.out, HT9.out, HJ7.out, HR7.out⟩)⟩
    · gi_wp2
      go_end0
      have hkn : k = n := by omega
      subst hkn
      refine ⟨⟨_, rfl⟩, .inl ⟨acc, xs, ?_, HG.out, HK.out, HR.out⟩⟩
      rw [← HT.out, Nat.sub_self]
      rfl
end Go.Proofs.Ytmpihllcmdgapaa.Smp
