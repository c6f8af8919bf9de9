/- Layer 14 (grid): GridFits as a walk, out of what the program's functions must do. -/
import Derived.Test.YtddlenbahidkaaaGdL
import Derived.Lib.MinMax
namespace Go.Proofs.Ytddlenbahidkaaa.Gd
open Go.RowKit Rec Ints Ge

/-- What the law keeps: its array, both grids, the stops. -/
structure Hx (Gr : World → Addr → List C → Int → Prop) (w : World) (a b : Addr) (l : List C) (s0 s1 n0 n1 n2 : Int) (A : Option Addr) (n : Nat) (wr : World) : Prop where
  arr : wr.heap[w.heap.size + 1]? = some (.cells #[.int .i64 n0, .int .i64 n1, .int .i64 n2] 45 (0, 0))
  bel : Below w.heap.size w wr
  g : Gr wr a l s0
  h : Gr wr b l s1
  row : RRow twoS wr wr.heap.size A n l
  old : w.heap.size + 1 < wr.heap.size
section
variable {Gr : World → Addr → List C → Int → Prop}
theorem Hx.below (k : Oks Gr) {w w1 w2 : World} {a b : Addr} {l : List C} {s0 s1 n0 n1 n2 : Int} {A : Option Addr} {n : Nat} (h : Hx Gr w a b l s0 s1 n0 n1 n2 A n w1) (hb : Below w1.heap.size w1 w2) : Hx Gr w a b l s0 s1 n0 n1 n2 A n w2 :=
  ⟨(hb.block _ (Array.getElem?_eq_some_iff.1 h.arr).1).trans h.arr, h.bel.trans (hb.mono h.bel.size), k.keep h.g hb, k.keep h.h hb, (h.row.below hb).more hb.size, by have := h.old; have := hb.size; omega⟩
theorem take_in {L : List Nat} {m x : Nat} (h : L[m]? = some x) (i : Nat) : (i ∈ L.take (m + 1)) ↔ (i ∈ L.take m ∨ x = i) := by
  rw [List.take_add_one, h]
  simp only [Option.toList_some, List.mem_append, List.mem_singleton]
  exact ⟨fun h => h.imp id Eq.symm, fun h => h.imp id Eq.symm⟩

set_option maxHeartbeats 1600000 in
set_option maxRecDepth 100000 in
theorem fits_walk (k : Oks Gr) (A : Option Addr) (n c : Nat) (l : List C) (s0 s1 n0 n1 n2 : Int) (w : World) (hnil : A = none → c = 0) (hnc : n ≤ c) (hcm : c ≤ maxLen) (hl : ∀ p ∈ l, B64p p) (hs0 : B64 s0) (hs1 : B64 s1) (b0 : B64 n0) (b1 : B64 n1) (b2 : B64 n2) (h : RRow twoS w w.heap.size A n l) :
    Calls Try.prog 4 #[.slice A n c, .agg #[.int .i64 s0, .int .i64 s1], .agg #[.int .i64 n0, .int .i64 n1, .int .i64 n2]] w fun e w' => e = .returned (.bool true) ∧ Below w.heap.size w w' := by
  have HLN := Lib.hid h.len
  have HLB := Lib.hid hl
  have HS0 := Lib.hid hs0
  have HS1 := Lib.hid hs1
  have HN0 := Lib.hid b0
  have HN1 := Lib.hid b1
  have HN2 := Lib.hid b2
  have HCM := Lib.hid (And.intro hnc (And.intro hcm hnil))
  have HBA : Hid (Below w.heap.size w (w.alloc (.cells #[.int .i64 s0, .int .i64 s1] 44))) := (Below.refl _ _).alloc (Nat.le_refl _) _
  have HB0 : Hid (Below w.heap.size w ((w.alloc (.cells #[.int .i64 s0, .int .i64 s1] 44)).alloc (.cells #[.int .i64 n0, .int .i64 n1, .int .i64 n2] 45))) := HBA.out.alloc HBA.out.size _
  have HJ0 : Hid (((w.alloc (.cells #[.int .i64 s0, .int .i64 s1] 44)).alloc (.cells #[.int .i64 n0, .int .i64 n1, .int .i64 n2] 45)).heap[w.heap.size]? = some (.cells #[.int .i64 s0, .int .i64 s1] 44 (0, 0))) := (((Below.refl _ _).alloc (Nat.le_refl _) _).block _ (by simp)).trans (heap_alloc_new w _)
  have HK0 : Hid (((w.alloc (.cells #[.int .i64 s0, .int .i64 s1] 44)).alloc (.cells #[.int .i64 n0, .int .i64 n1, .int .i64 n2] 45)).heap[w.heap.size + 1]? = some (.cells #[.int .i64 n0, .int .i64 n1, .int .i64 n2] 45 (0, 0))) := by have := heap_alloc_new (w.alloc (.cells #[.int .i64 s0, .int .i64 s1] 44)) (.cells #[.int .i64 n0, .int .i64 n1, .int .i64 n2] 45); rwa [World.size_alloc] at this
  have HW0 : Hid (RRow twoS ((w.alloc (.cells #[.int .i64 s0, .int .i64 s1] 44)).alloc (.cells #[.int .i64 n0, .int .i64 n1, .int .i64 n2] 45)) w.heap.size A n l) := h.below HB0.out
  clear h hl hs0 hs1 b0 b1 b2 hnc hcm hnil HBA
  go_enter Try.func4, Try.ntmps4
  go_wp2_with fail
  generalize (w.alloc (.cells #[.int .i64 s0, .int .i64 s1] 44)).alloc (.cells #[.int .i64 n0, .int .i64 n1, .int .i64 n2] 45) = wa at *
  refine (awake_any k _).mono ?_
  rintro e1 w1 ⟨rfl, hb1⟩
  have hsz1 : w.heap.size + 1 < w1.heap.size := by have := (Array.getElem?_eq_some_iff.1 HK0.out).1; have := hb1.size; omega
  have HB1 := Lib.hid (HB0.out.trans (hb1.mono HB0.out.size))
  have HJ1 := Lib.hid ((hb1.block _ (Array.getElem?_eq_some_iff.1 HJ0.out).1).trans HJ0.out)
  have HK1 := Lib.hid ((hb1.block _ (Array.getElem?_eq_some_iff.1 HK0.out).1).trans HK0.out)
  have HW1 : Hid (RRow twoS w1 w1.heap.size A n l) := (HW0.out.below (hb1.mono HB0.out.size)).more HB1.out.size
  clear hb1 HB0 HJ0 HK0 HW0
  by_cases h200 : 200 < n
  · have d0 : decide ((200 : Int) < (n : Int)) = true := decide_eq_true (by omega)
    go_wp2
    go_ret
    exact ⟨rfl, HB1.out⟩
  have d0 : decide ((200 : Int) < (n : Int)) = false := decide_eq_false (by omega)
  go_wp2_with fail
  refine (k.near0 0 0 1 1 w1 ⟨by omega, by omega⟩ ⟨by omega, by omega⟩ ⟨by omega, by omega⟩ ⟨by omega, by omega⟩).mono ?_
  rintro e2 w2 ⟨v2, rfl, -, -, -, -, -, -, -, -, hb2⟩
  go_wp2_with fail
  refine (k.len0 w2).mono ?_
  rintro e3 w3 ⟨rfl, hb3⟩
  have hb23 := hb2.trans (hb3.mono hb2.size)
  clear hb2 hb3
  go_wp2_with fail
  refine (k.cell0 (0, 0) w3 ⟨⟨by omega, by omega⟩, ⟨by omega, by omega⟩⟩).mono ?_
  rintro e4 w4 ⟨v4, rfl, A4, m4, c4, rfl, hr4, -, -, -, hb4⟩
  have hm4 : m4 = 0 := hr4.len.symm
  subst hm4
  have hb24 := hb23.trans (hb4.mono hb23.size)
  have HB4 := Lib.hid (HB1.out.trans (hb24.mono HB1.out.size))
  have HJ4 := Lib.hid ((hb24.block _ (by omega)).trans HJ1.out)
  have HK4 := Lib.hid ((hb24.block _ hsz1).trans HK1.out)
  have HW4 : Hid (RRow twoS w4 w4.heap.size A n l) := (HW1.out.below hb24).more hb24.size
  have hsz4 : w.heap.size + 1 < w4.heap.size := by have := hb24.size; omega
  clear hb24 hb23 hb4 hr4 HB1 HJ1 HK1 HW1 hsz1
  have q0 : w4.cell? ⟨w.heap.size, 0, none⟩ = some (.int .i64 s0) := cell_of_blk HJ4.out rfl
  go_wp2_with fail
  refine (k.new A n c l s0 w4 HW4.out HCM.out.2.2 HCM.out.1 HCM.out.2.1 (by omega) HLB.out HS0.out).mono ?_
  rintro e5 w5 ⟨v5, rfl, hno5, hyes5, hb5⟩
  have HB5 := Lib.hid (HB4.out.trans (hb5.mono HB4.out.size))
  have HJ5 := Lib.hid ((hb5.block _ (by omega)).trans HJ4.out)
  have HK5 := Lib.hid ((hb5.block _ hsz4).trans HK4.out)
  have HW5 : Hid (RRow twoS w5 w5.heap.size A n l) := (HW4.out.below hb5).more hb5.size
  have hsz5 : w.heap.size + 1 < w5.heap.size := by have := hb5.size; omega
  have HNO5 := Lib.hid hno5
  have HYES5 := Lib.hid hyes5
  clear hb5 HB4 HJ4 HK4 HW4 hsz4 q0 hno5 hyes5
  have q1 : w5.cell? ⟨w.heap.size, 1, none⟩ = some (.int .i64 s1) := cell_of_blk HJ5.out rfl
  go_wp2_with fail
  refine (k.new A n c l s1 w5 HW5.out HCM.out.2.2 HCM.out.1 HCM.out.2.1 (by omega) HLB.out HS1.out).mono ?_
  rintro e6 w6 ⟨v6, rfl, hno6, hyes6, hb6⟩
  have HB6 := Lib.hid (HB5.out.trans (hb6.mono HB5.out.size))
  have HK6 := Lib.hid ((hb6.block _ hsz5).trans HK5.out)
  have HW6 : Hid (RRow twoS w6 w6.heap.size A n l) := (HW5.out.below hb6).more hb6.size
  have hsz6 : w.heap.size + 1 < w6.heap.size := by have := hb6.size; omega
  have HYES5' : Hid (right l s0 = 0 → ∃ a, v5 = .pointer (some a) ∧ Gr w6 a l s0) := fun h => by obtain ⟨a, e, hg⟩ := HYES5.out h; exact ⟨a, e, k.keep hg hb6⟩
  have HNO6 := Lib.hid hno6
  have HYES6 := Lib.hid hyes6
  clear hb6 HB5 HJ5 HK5 HW5 hsz5 q1 hno6 hyes6 HYES5
  by_cases h5 : ¬ right l s0 = 0
  · obtain rfl := HNO5.out h5
    obtain ⟨r5, hr5⟩ : ∃ r, right l s0 = r := ⟨_, rfl⟩
    rw [hr5] at h5 ⊢
    have f5 : ((r5 : Int) == 0) = false := beq_eq_false_iff_ne.2 (by omega)
    have f5' : ((r5 : Int) != 0) = true := bne_iff_ne.2 (by omega)
    by_cases h6 : ¬ right l s1 = 0
    · obtain rfl := HNO6.out h6
      obtain ⟨r6, hr6⟩ : ∃ r, right l s1 = r := ⟨_, rfl⟩
      rw [hr6] at h6 ⊢
      have f6 : ((r6 : Int) == 0) = false := beq_eq_false_iff_ne.2 (by omega)
      have f6' : ((r6 : Int) != 0) = true := bne_iff_ne.2 (by omega)
      clear hr5 hr6 h5 h6 HNO5 HNO6 HYES5' HYES6
      go_wp2
      go_ret
      exact ⟨by simp, HB6.out⟩
    · have h6 := Classical.not_not.1 h6
      obtain ⟨b, rfl, -⟩ := HYES6.out h6
      rw [h6]
      clear hr5 h5 h6 HNO5 HNO6 HYES5' HYES6
      go_wp2
      go_ret
      exact ⟨by simp, HB6.out⟩
  have h5 := Classical.not_not.1 h5
  obtain ⟨a, rfl, hga⟩ := HYES5'.out h5
  have HR5 := Lib.hid h5
  rw [h5]
  by_cases h6 : ¬ right l s1 = 0
  · obtain rfl := HNO6.out h6
    obtain ⟨r6, hr6⟩ : ∃ r, right l s1 = r := ⟨_, rfl⟩
    rw [hr6] at h6 ⊢
    have f6 : ((r6 : Int) == 0) = false := beq_eq_false_iff_ne.2 (by omega)
    have f6' : ((r6 : Int) != 0) = true := bne_iff_ne.2 (by omega)
    clear h5 hr6 h6 HNO5 HNO6 HYES5' HYES6
    go_wp2
    go_ret
    exact ⟨rfl, HB6.out⟩
  have h6 := Classical.not_not.1 h6
  obtain ⟨b, rfl, hgb⟩ := HYES6.out h6
  have HR6 := Lib.hid h6
  rw [h6]
  have HGD := Lib.hid (right_is h5).2.2
  have HX6 : Hid (Hx Gr w a b l s0 s1 n0 n1 n2 A n w6) := ⟨HK6.out, HB6.out, hga, hgb, HW6.out, hsz6⟩
  clear h5 h6 HNO5 HNO6 HYES5' HYES6 hga hgb HK6 HB6 HW6 hsz6
  have p0 : w6.cell? ⟨w.heap.size + 1, 0, none⟩ = some (.int .i64 n0) := cell_of_blk HX6.out.arr rfl
  have p1 : w6.cell? ⟨w.heap.size + 1, 1, none⟩ = some (.int .i64 n1) := cell_of_blk HX6.out.arr rfl
  have p2 : w6.cell? ⟨w.heap.size + 1, 2, none⟩ = some (.int .i64 n2) := cell_of_blk HX6.out.arr rfl
  go_wp2_with fail
  refine (k.near a l s0 n0 n1 n2 1048576 w6 HX6.out.g (by rw [HLN.out]; omega) HLB.out HR5.out HN0.out HN1.out HN2.out ⟨by omega, by omega⟩).mono ?_
  rintro e7 w7 ⟨v7, rfl, A7, m7, c7, rfl, hr7, -, hc7, hx7, hb7⟩
  have HR7 := Lib.hid hr7
  have HX7 := Lib.hid (HX6.out.below k hb7)
  have HC7 := Lib.hid (And.intro hc7 hx7)
  clear hr7 hb7 HX6 p0 p1 p2 hc7 hx7
  have p0 : w7.cell? ⟨w.heap.size + 1, 0, none⟩ = some (.int .i64 n0) := cell_of_blk HX7.out.arr rfl
  have p1 : w7.cell? ⟨w.heap.size + 1, 1, none⟩ = some (.int .i64 n1) := cell_of_blk HX7.out.arr rfl
  have p2 : w7.cell? ⟨w.heap.size + 1, 2, none⟩ = some (.int .i64 n2) := cell_of_blk HX7.out.arr rfl
  obtain ⟨T7, hT7⟩ : ∃ T7, nearT l n0 n1 n2 1048576 = T7 := ⟨_, rfl⟩
  rw [hT7] at HR7 ⊢
  have HT7 := Lib.hid hT7
  clear hT7
  obtain ⟨L7, E7⟩ := T7
  simp only at HR7
  go_wp2_with fail
  refine (k.near b l s1 n0 n1 n2 1048576 w7 HX7.out.h (by rw [HLN.out]; omega) HLB.out HR6.out HN0.out HN1.out HN2.out ⟨by omega, by omega⟩).mono ?_
  rw [HT7.out]
  rintro e8 w8 ⟨v8, rfl, A8, m8, c8, rfl, hr8, -, -, -, hb8⟩
  have HR8 := Lib.hid hr8
  have HR78 := Lib.hid ((HR7.out.below hb8).more hb8.size)
  have HX8 := Lib.hid (HX7.out.below k hb8)
  clear hr8 hb8 HX7 p0 p1 p2 HR7
  have p0 : w8.cell? ⟨w.heap.size + 1, 0, none⟩ = some (.int .i64 n0) := cell_of_blk HX8.out.arr rfl
  have p1 : w8.cell? ⟨w.heap.size + 1, 1, none⟩ = some (.int .i64 n1) := cell_of_blk HX8.out.arr rfl
  have p2 : w8.cell? ⟨w.heap.size + 1, 2, none⟩ = some (.int .i64 n2) := cell_of_blk HX8.out.arr rfl
  by_cases hbad : ¬ may n0 n1 ∨ n2 < 0 ∨ 1048576 < n2 ∨ (1048576 : Int) < 0
  · have e9 : (L7, E7) = (([] : List Int), 2) := HT7.out.symm.trans (nearT_no hbad)
    injection e9 with e9 e9'
    subst e9 e9'
    have z7 : m7 = 0 := HR78.out.len.symm
    have z8 : m8 = 0 := HR8.out.len.symm
    subst z7 z8
    clear hbad
    go_wp2
    go_ret
    exact ⟨rfl, HX8.out.bel⟩
  have e9 : (L7, E7) = (nums (near (n0, n1) l n2 1048576), 0) := HT7.out.symm.trans (nearT_yes hbad)
  injection e9 with e9 e9'
  subst e9 e9'
  have hmay : may n0 n1 := Classical.not_not.1 fun h => hbad (.inl h)
  have hn2 : 0 ≤ n2 ∧ n2 ≤ 1048576 := by omega
  obtain ⟨R', hR'⟩ : ∃ R' : Int, min (2 * n2 + 1) 1048576 = R' := ⟨_, rfl⟩
  have hRb : n2 ≤ R' ∧ R' ≤ 1048576 := by omega
  have e1 : IntKind.i64.wrap (2 * n2) = 2 * n2 := IntWalk.i64_in _ ⟨by omega, by omega⟩
  have e2 : IntKind.i64.wrap (2 * n2 + 1) = 2 * n2 + 1 := IntWalk.i64_in _ ⟨by omega, by omega⟩
  have HT9 : Hid (nearT l n0 n1 R' 1048576 = (nums (near (n0, n1) l R' 1048576), 0)) := nearT_yes (by intro hh; rcases hh with hh | hh | hh | hh; exact hh hmay; all_goals omega)
  have hmore := near_more (p := (n0, n1)) (l := l) (r := n2) (r' := R') (most := 1048576) (by rw [HLN.out]; omega) hn2.1 hRb.1
  have HMORE := Lib.hid hmore
  have HBR : Hid (B64 R') := ⟨by omega, by omega⟩
  clear hbad hmore
  go_wp2_with fail
  refine (k.near b l s1 n0 n1 R' 1048576 w8 HX8.out.h (by rw [HLN.out]; omega) HLB.out HR6.out HN0.out HN1.out HBR.out ⟨by omega, by omega⟩).mono ?_
  rw [HT9.out]
  rintro e9 w9 ⟨v9, rfl, A9, m9, c9, rfl, hr9, hi9, hc9, hx9, hb9⟩
  have HR9 := Lib.hid hr9
  have HR79 := Lib.hid ((HR78.out.below hb9).more hb9.size)
  have HR89 := Lib.hid ((HR8.out.below hb9).more hb9.size)
  have HX9 := Lib.hid (HX8.out.below k hb9)
  have hlen7 : m7 = (near (n0, n1) l n2 1048576).length := by have := HR78.out.len; rw [nums_len] at this; exact this.symm
  have hlen9 : m9 = (near (n0, n1) l R' 1048576).length := by have := hr9.len; rw [nums_len] at this; exact this.symm
  have h79 : m7 ≤ m9 := by rw [hlen7, hlen9]; exact HMORE.out.1
  have h7b : m7 ≤ 200 := by have := near_len (n0, n1) l n2 1048576; have := HLN.out; omega
  have HTK : Hid (RRow intS w9 w9.heap.size A9 m7 (nums (near (n0, n1) l n2 1048576))) := by
    have h1 := hr9.take h79
    rw [← nums_take, hlen7, HMORE.out.2] at h1
    rw [hlen7]
    exact h1
  clear hr9 hb9 HX8 p0 p1 p2 HR78 HR8 hlen7 hlen9 HMORE
  go_wp2_with fail
  refine (isame_any A7 A8 m7 m8 c7 c8 _ _ _ _ w9 (by omega) HR79.out HR89.out).mono ?_
  rw [decide_eq_true rfl]
  rintro e10 w10 ⟨rfl, q10, rfl⟩
  have HX10 := Lib.hid (HX9.out.below k (below_drewN (Below.refl _ _) q10))
  have HTK10 := Lib.hid (HTK.out.drewN q10)
  have HR710 := Lib.hid (HR79.out.drewN q10)
  generalize w9.drewN q10 = w10 at *
  clear HTK HX9 HR79 HR89
  have f1 : decide ((m9 : Int) < (m7 : Int)) = false := decide_eq_false (by omega)
  have f1' : decide (m9 < m7) = false := decide_eq_false (by omega)
  have f2 : (0 : Int) ≤ (m7 : Int) := by omega
  have f3 : (m7 : Int) ≤ (c9 : Int) := by omega
  go_wp2_with fail
  refine (isame_any A9 A7 m7 m7 c9 c7 _ _ _ _ w10 (by omega) HTK10.out HR710.out).mono ?_
  rw [decide_eq_true rfl]
  rintro e11 w11 ⟨rfl, q11, rfl⟩
  have HX11 := Lib.hid (HX10.out.below k (below_drewN (Below.refl _ _) q11))
  generalize w10.drewN q11 = w11 at *
  clear HTK10 HX10 HR710
  go_wp2_with fail
  go_loopw [24, 158] (fun _ i wr => ∃ j : Nat, j ≤ n ∧ i = .int .i64 (j : Int) ∧ Hid (Hx Gr w a b l s0 s1 n0 n1 n2 A n wr)) (fun _ i _ => n - (intOf i).toNat)
  case atStart => exact ⟨0, Nat.zero_le _, rfl, HX11⟩
  case round =>
    clear HX11
    obtain ⟨j, hj, rfl, HX⟩ := hrel
    by_cases hjn : j < n
    · obtain ⟨bb, o, p, rfl, hbb, hp, c0, c1⟩ := two_at HX.out.row hjn
      obtain ⟨px, py⟩ := p
      simp only at c0 c1
      have hpm := HGD.out _ (List.mem_of_getElem? hp)
      have hpb := HLB.out _ (List.mem_of_getElem? hp)
      have HP := Lib.hid hp
      have HNZ : Hid (∀ i, i ∈ near (px, py) l 0 1048576 ↔ l[i]? = some (px, py)) := fun i => near_zero hpm HGD.out (by rw [HLN.out]; omega)
      have HT12 : Hid (nearT l px py 0 1048576 = (nums (near (px, py) l 0 1048576), 0)) := nearT_yes (by intro hh; rcases hh with hh | hh | hh | hh; exact hh hpm; all_goals omega)
      have HXA := Lib.hid (HX.out.below k ((Below.refl wr.heap.size wr).alloc (Nat.le_refl _) (.cells #[.int .i64 px, .int .i64 py] 46)))
      have HKA := Lib.hid (heap_alloc_new wr (.cells #[.int .i64 px, .int .i64 py] 46))
      have HPB := Lib.hid hpb
      clear hp hpm hpb HX
      go_wp2_with fail
      obtain ⟨gs, hgs⟩ : ∃ gs, wr.heap.size = gs := ⟨_, rfl⟩
      rw [hgs] at HKA ⊢
      generalize wr.alloc (.cells #[.int .i64 px, .int .i64 py] 46) = wb at *
      clear c0 c1
      refine (k.near a l s0 px py 0 1048576 wb HXA.out.g (by rw [HLN.out]; omega) HLB.out HR5.out HPB.out.1 HPB.out.2 ⟨by omega, by omega⟩ ⟨by omega, by omega⟩).mono ?_
      rw [HT12.out]
      rintro e12 w12 ⟨v12, rfl, A12, m12, c12, rfl, hr12, -, hc12, hx12, hb12⟩
      have HR12 := Lib.hid hr12
      have HX12 := Lib.hid (HXA.out.below k hb12)
      have HK12 := Lib.hid ((hb12.block _ (Array.getElem?_eq_some_iff.1 HKA.out).1).trans HKA.out)
      obtain ⟨L, hL⟩ : ∃ L, near (px, py) l 0 1048576 = L := ⟨_, rfl⟩
      have hlen : m12 = L.length := by have := hr12.len; rw [nums_len, hL] at this; exact this.symm
      have hm12 : m12 ≤ 200 := by have h1 := near_len (px, py) l 0 1048576; have h2 := HLN.out; rw [hL] at h1; omega
      rw [hL] at HR12 HNZ
      have HLL := Lib.hid hlen
      have HST : Hid (false = decide (j ∈ L.take 0)) := by unfold Hid; simp
      clear hr12 hb12 HXA HKA hL hlen hgs HT12
      go_wp2_with fail
      go_loopw [24, 174] (fun fb i wr => ∃ (m : Nat) (f : Bool), m ≤ m12 ∧ i = .int .i64 (m : Int) ∧ fb = .bool f ∧ Hid (f = decide (j ∈ L.take m)) ∧ Hid (Hx Gr w a b l s0 s1 n0 n1 n2 (some ⟨bb, o, none⟩) n wr) ∧ Hid (wr.heap[gs]? = some (.cells #[.int .i64 px, .int .i64 py] 46 (0, 0))) ∧ Hid (RRow intS wr wr.heap.size A12 m12 (nums L))) (fun _ i _ => m12 - (intOf i).toNat)
      case atStart => exact ⟨0, false, Nat.zero_le _, rfl, rfl, HST, HX12, HK12, HR12⟩
      case round =>
        clear HX12 HK12 HR12 HST
        obtain ⟨m, f, hm, rfl, rfl, HF, HX, HK, HR⟩ := hrel
        by_cases hmm : m < m12
        · obtain ⟨b', o', x', rfl, hbb', hx', z0⟩ := int_at HR.out hmm
          obtain ⟨x, hx, rfl⟩ := nums_at hx'
          have hlx := (HNZ.out x).1 (List.mem_of_getElem? hx)
          have hxn : x < n := by have h1 := (List.getElem?_eq_some_iff.1 hlx).1; have h2 := HLN.out; omega
          obtain ⟨b2, o2, p2, e2', hbb2, hp2, c0, c1⟩ := two_at HX.out.row hxn
          injection e2' with e2'
          injection e2' with e2' e3'
          subst e2' e3'
          rw [hlx] at hp2
          injection hp2 with hp2
          subst hp2
          simp only at c0 c1
          have y0 : wr.cell? ⟨gs, 0, none⟩ = some (.int .i64 px) := cell_of_blk HK.out rfl
          have y1 : wr.cell? ⟨gs, 1, none⟩ = some (.int .i64 py) := cell_of_blk HK.out rfl
          have g1 : (x : Int) < (n : Int) := by omega
          have g2 : (0 : Int) ≤ (x : Int) := by omega
          have HTI := Lib.hid (take_in hx j)
          clear hx hx' hlx
          cases f with
          | true =>
            have HF2 : Hid (true = decide (j ∈ L.take (m + 1))) := (decide_eq_true (HTI.out.2 (.inl (of_decide_eq_true HF.out.symm)))).symm
            go_wp2
            go_quiet (fail)
            go_wp2
            go_roundw
            case rel => exact ⟨m + 1, true, by omega, by go_num, rfl, HF2, HX.out.below k (below_drewN (Below.refl _ _) _), HK, HR.out.drewN _⟩
            case measure => simp [intOf]; omega
          | false =>
            by_cases hxj : x = j
            · have g3 : ((x : Int) == (j : Int)) = true := beq_iff_eq.2 (by omega)
              have HF2 : Hid (true = decide (j ∈ L.take (m + 1))) := (decide_eq_true (HTI.out.2 (.inr hxj))).symm
              clear hxj
              go_wp2
              go_quiet (fail)
              go_wp2
              go_roundw
              case rel => exact ⟨m + 1, true, by omega, by go_num, rfl, HF2, HX.out.below k (below_drewN (Below.refl _ _) _), HK, HR.out.drewN _⟩
              case measure => simp [intOf]; omega
            · have g3 : ((x : Int) == (j : Int)) = false := beq_eq_false_iff_ne.2 (by omega)
              have HF2 : Hid (false = decide (j ∈ L.take (m + 1))) := (decide_eq_false fun h => (HTI.out.1 h).elim (of_decide_eq_false HF.out.symm) hxj).symm
              clear hxj
              go_wp2
              go_quiet (fail)
              go_wp2
              go_roundw
              case rel => exact ⟨m + 1, false, by omega, by go_num, rfl, HF2, HX.out.below k (below_drewN (Below.refl _ _) _), HK, HR.out.drewN _⟩
              case measure => simp [intOf]; omega
        · have hf : f = true := by
            rw [HF.out]
            refine decide_eq_true ?_
            rw [List.take_of_length_le (by have := HLL.out; omega)]
            exact (HNZ.out j).2 HP.out
          subst hf
          clear HF
          go_wp2
          go_roundw
          case rel => exact ⟨j + 1, by omega, by go_num, HX⟩
          case measure => simp [intOf]; omega
    · go_wp2
      go_ret
      exact ⟨rfl, HX.out.bel⟩
end
end Go.Proofs.Ytddlenbahidkaaa.Gd
