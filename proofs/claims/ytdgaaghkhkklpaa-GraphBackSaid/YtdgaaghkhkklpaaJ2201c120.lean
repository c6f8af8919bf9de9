/- Lemmas that the proof stands on, in build order: GfX. -/
import Derived.Test.YtdgaaghkhkklpaaJ21751cc4
import Derived.Test.YtdgaaghkhkklpaaJ21bd6f6
/- Layer 15 (graph): GraphNear as a walk, out of what the program's functions must do. -/
namespace Go.Proofs.Ytdgaaghkhkklpaa.Gf
open Go.RowKit Rec Ints Ge Var Fld Frm Nu

set_option maxHeartbeats 3200000 in
set_option maxRecDepth 100000 in
theorem near_walk (k : Oks) (N : Nt) (A A' : Option Addr) (n c m c' : Nat) (s : Int) (w : World) (h : NAt w w.heap.size N A n c A' m c') (hbd : Bnd N) (hs : B64 s) :
    Calls Try.prog 4 #[.agg #[.int .i64 N.ver, .slice A n c, .slice A' m c'], .int .i64 s] w fun e w' => e = .returned (.bool true) ∧ Below w.heap.size w w' := by
  have HSB := Lib.hid hs
  clear hs
  have HBX := Lib.hid (Bx.start h)
  have HBD := Lib.hid hbd
  have HLS : Hid (N.st.length = n) := h.st.len
  have HLL : Hid (N.lk.length = m) := h.lk.len
  clear h hbd
  go_enter Try.func4, Try.ntmps4
  go_wp2_with fail
  generalize w.alloc (.cells #[.int .i64 N.ver, .slice A n c, .slice A' m c'] 25) = wa at *
  refine (awake_any k _).mono ?_
  rintro e1 w1 ⟨rfl, hb1⟩
  have HB1 := Lib.hid (HBX.out.below hb1)
  clear hb1 HBX
  have z0 : w1.cell? ⟨w.heap.size, 0, none⟩ = some (.int .i64 N.ver) := cell_of_blk HB1.out.blk rfl
  have z1 : w1.cell? ⟨w.heap.size, 1, none⟩ = some (.slice A n c) := cell_of_blk HB1.out.blk rfl
  have z2 : w1.cell? ⟨w.heap.size, 2, none⟩ = some (.slice A' m c') := cell_of_blk HB1.out.blk rfl
  go_wp2_with fail
  refine (few_any N A A' n c m c' w1 HB1.out.up).mono ?_
  rintro e2 w2 ⟨rfl, hb2⟩
  have HB2 := Lib.hid (HB1.out.below hb2)
  clear hb2 HB1 z0 z1 z2
  cases hfew : (decide (n ≤ 60) && decide (m ≤ 120)) with
  | false =>
    go_wp2
    go_ret
    exact ⟨rfl, HB2.out.bel⟩
  | true =>
  have hn60 : n ≤ 60 := by simp only [Bool.and_eq_true, decide_eq_true_eq] at hfew; exact hfew.1
  have hm120 : m ≤ 120 := by simp only [Bool.and_eq_true, decide_eq_true_eq] at hfew; exact hfew.2
  clear hfew
  have z0 : w2.cell? ⟨w.heap.size, 0, none⟩ = some (.int .i64 N.ver) := cell_of_blk HB2.out.blk rfl
  have z1 : w2.cell? ⟨w.heap.size, 1, none⟩ = some (.slice A n c) := cell_of_blk HB2.out.blk rfl
  have z2 : w2.cell? ⟨w.heap.size, 2, none⟩ = some (.slice A' m c') := cell_of_blk HB2.out.blk rfl
  go_wp2_with fail
  refine (k.parts N A A' n c m c' w2 HB2.out.up HBD.out (by omega) (by omega)).mono ?_
  rintro e3 w3 ⟨v3, rfl, A3, n3, c3, rfl, hr3, -, -, -, hb3⟩
  have HB3 := Lib.hid (HB2.out.below hb3)
  have HR3 := Lib.hid hr3
  clear hb3 HB2 hr3 z0 z1 z2
  have z0 : w3.cell? ⟨w.heap.size, 0, none⟩ = some (.int .i64 N.ver) := cell_of_blk HB3.out.blk rfl
  have z1 : w3.cell? ⟨w.heap.size, 1, none⟩ = some (.slice A n c) := cell_of_blk HB3.out.blk rfl
  have z2 : w3.cell? ⟨w.heap.size, 2, none⟩ = some (.slice A' m c') := cell_of_blk HB3.out.blk rfl
  go_wp2_with fail
  refine (refcheck_any N A A' n c m c' w3 HB3.out.up (by omega) (by omega)).mono ?_
  rintro e4 w4 ⟨rfl, hb4⟩
  have HB4 := Lib.hid (HB3.out.below hb4)
  have HR4 := Lib.hid ((HR3.out.below hb4).more hb4.size)
  clear hb4 HB3 HR3 z0 z1 z2
  by_cases hck : ¬ check N = 0
  · obtain ⟨ck, hck'⟩ : ∃ ck, check N = ck := ⟨_, rfl⟩
    have hpt := partsE_no hck
    have hlen := HR4.out.len
    rw [hpt] at hlen
    have hn3 : 0 = n3 := hlen
    subst hn3
    rw [hck'] at hck ⊢
    have f1 : ((ck : Int) == 0) = false := beq_eq_false_iff_ne.2 (by omega)
    have f1' : ((ck : Int) != 0) = true := bne_iff_ne.2 (by omega)
    clear hck hck' hpt hlen HR4
    go_wp2
    go_ret
    exact ⟨rfl, HB4.out.bel⟩
  have hck := Classical.not_not.1 hck
  have hr4 := HR4.out
  rw [partsE_yes hck] at hr4
  have HR5 := Lib.hid hr4
  have HCK := Lib.hid hck
  rw [hck]
  have hn3 : n3 ≤ 60 := by have h1 := hr4.len; rw [nums_len, parts_len, HLS.out] at h1; omega
  clear hr4 hck HR4
  have z0 : w4.cell? ⟨w.heap.size, 0, none⟩ = some (.int .i64 N.ver) := cell_of_blk HB4.out.blk rfl
  have z1 : w4.cell? ⟨w.heap.size, 1, none⟩ = some (.slice A n c) := cell_of_blk HB4.out.blk rfl
  have z2 : w4.cell? ⟨w.heap.size, 2, none⟩ = some (.slice A' m c') := cell_of_blk HB4.out.blk rfl
  go_wp2_with fail
  refine (refparts_any N A A' n c m c' w4 HB4.out.up HCK.out).mono ?_
  rintro e5 w5 ⟨v5, rfl, A5, n5, c5, rfl, hr5, -, -, -, hb5⟩
  have HB5 := Lib.hid (HB4.out.below hb5)
  have HR6 := Lib.hid ((HR5.out.below hb5).more hb5.size)
  have HR7 := Lib.hid hr5
  clear hb5 HB4 HR5 hr5 z0 z1 z2
  go_wp2_with fail
  refine (isame_any A3 A5 n3 n5 c3 c5 _ _ _ _ w5 (by omega) HR6.out HR7.out).mono ?_
  rw [decide_eq_true rfl]
  rintro e6 w6 ⟨rfl, q6, rfl⟩
  have HB6 := Lib.hid (HB5.out.below (below_drewN (Below.refl _ _) q6))
  generalize w5.drewN q6 = w6 at *
  clear HB5 HR6 HR7
  have z0 : w6.cell? ⟨w.heap.size, 0, none⟩ = some (.int .i64 N.ver) := cell_of_blk HB6.out.blk rfl
  have z1 : w6.cell? ⟨w.heap.size, 1, none⟩ = some (.slice A n c) := cell_of_blk HB6.out.blk rfl
  have z2 : w6.cell? ⟨w.heap.size, 2, none⟩ = some (.slice A' m c') := cell_of_blk HB6.out.blk rfl
  go_wp2_with fail
  refine (k.near N A A' n c m c' s w6 HB6.out.up HBD.out HCK.out HSB.out).mono ?_
  rintro e7 w7 ⟨v7, rfl, A7, n7, c7, rfl, hr7, -, -, -, hb7⟩
  have HB7 := Lib.hid (HB6.out.below hb7)
  have HLEN : Hid ((nearK N.lk s n).length = n7) := by have h1 := hr7.len; unfold nearL at h1; rw [HLS.out] at h1; exact h1
  have HR7 : Hid (RRow lkS w7 w7.heap.size A7 n7 (nearK N.lk s n)) := by have h1 := hr7; unfold nearL at h1; rw [HLS.out] at h1; exact h1
  have hn7 : n7 ≤ 60 := by have := nearK_le N.lk s n; have := HLEN.out; omega
  clear hb7 HB6 hr7 z0 z1 z2
  have z1 : w7.cell? ⟨w.heap.size, 1, none⟩ = some (.slice A n c) := cell_of_blk HB7.out.blk rfl
  go_wp2
  clear z1
  go_loopw [9, 49] (fun kv i wr => ∃ j : Nat, j ≤ n ∧ i = .int .i64 (j : Int) ∧ kv = .int .i64 (((nearK N.lk s j).length : Nat) : Int) ∧ Hid (Bx w N A n c A' m c' wr) ∧ Hid (RRow lkS wr wr.heap.size A7 n7 (nearK N.lk s n))) (fun _ i _ => n - (intOf i).toNat)
  case atStart => exact ⟨0, Nat.zero_le _, rfl, rfl, HB7, HR7⟩
  case round =>
    clear HB7 HR7
    obtain ⟨j, hj, rfl, rfl, HB, HR⟩ := hrel
    by_cases hlt : j < n
    · have z0 : wr.cell? ⟨w.heap.size, 0, none⟩ = some (.int .i64 N.ver) := cell_of_blk HB.out.blk rfl
      have z1 : wr.cell? ⟨w.heap.size, 1, none⟩ = some (.slice A n c) := cell_of_blk HB.out.blk rfl
      have z2 : wr.cell? ⟨w.heap.size, 2, none⟩ = some (.slice A' m c') := cell_of_blk HB.out.blk rfl
      go_wp2_with fail
      refine (refweight_any N A A' n c m c' s (j : Int) wr HB.out.up (by omega)).mono ?_
      rintro e8 w8 ⟨rfl, hb8⟩
      have HB8 := Lib.hid (HB.out.below hb8)
      have HR8 := Lib.hid ((HR.out.below hb8).more hb8.size)
      clear hb8 HB HR z0 z1 z2
      obtain ⟨W, hW⟩ : ∃ W, wt N.lk s (j : Int) = W := ⟨_, rfl⟩
      obtain ⟨L, hL⟩ : ∃ L, (nearK N.lk s j).length = L := ⟨_, rfl⟩
      rw [hW, hL]
      by_cases h0 : W = 0
      · have HNK : Hid ((nearK N.lk s (j + 1)).length = L) := by unfold Hid; rw [nearK_no (by rw [hW]; exact h0), hL]
        subst h0
        clear hW hL
        go_wp2
        go_roundw
        case rel => exact ⟨j + 1, by omega, by go_num, by rw [HNK.out], HB8, HR8⟩
        case measure => simp [intOf]; omega
      · have f1 : (W == 0) = false := beq_eq_false_iff_ne.2 h0
        have HNK : Hid ((nearK N.lk s (j + 1)).length = L + 1) := by unfold Hid; rw [nearK_yes (by rw [hW]; exact h0), hL]
        have hat := near_at (L := N.lk) (s := s) hlt (by rw [hW]; exact h0)
        rw [hL, hW] at hat
        have hLn : L < n7 := by have h1 := (List.getElem?_eq_some_iff.1 hat).1; have h2 := HLEN.out; omega
        obtain ⟨b, o, p, rfl, _, hp, c0, c1, c2⟩ := lk_at HR8.out hLn
        rw [hat] at hp
        injection hp with hp
        subst hp
        simp only at c0 c1 c2
        have d1 : decide ((n7 : Int) ≤ (L : Int)) = false := decide_eq_false (by omega)
        have d1' : decide (n7 ≤ L) = false := decide_eq_false (by omega)
        have g1 : (0 : Int) ≤ (L : Int) := by omega
        have g2 : (L : Int) < (n7 : Int) := by omega
        clear hat hW hL h0
        go_wp2
        go_roundw
        case rel => exact ⟨j + 1, by omega, by go_num, by rw [HNK.out]; go_num, HB8, HR8⟩
        case measure => simp [intOf]; omega
    · have hjn : j = n := by omega
      subst hjn
      rw [HLEN.out]
      go_wp2
      go_ret
      exact ⟨by simp, HB.out.bel⟩
end Go.Proofs.Ytdgaaghkhkklpaa.Gf
