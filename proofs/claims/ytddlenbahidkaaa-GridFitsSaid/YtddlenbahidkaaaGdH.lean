/- Layer 14 (grid), the landed program: Near's errors, Nearest, as contracts; all that the laws ask. -/
import Derived.Test.YtddlenbahidkaaaGdN
import Derived.Test.YtddlenbahidkaaaGdG
namespace Go.Proofs.Ytddlenbahidkaaa.Gd
open Go.RowKit Rec Ints Ge

theorem near_nil (x y r most : Int) (w : World) : Calls Try.prog 12 #[.pointer none, .int .i64 x, .int .i64 y, .int .i64 r, .int .i64 most] w fun e w' => ∃ v, e = .returned (.tuple #[v, .int .i64 1]) ∧ InTo w.heap.size w [] v w' := by
  go_enter Try.func12, Try.ntmps12
  go_wp2_with fail
  refine (made_nil w).mono ?_
  rintro e1 w1 ⟨rfl, hw1⟩
  rw [hw1]
  clear hw1 w1
  go_wp2
  go_ret2
  exact ⟨_, rfl, InTo.nil (Below.refl _ _)⟩
set_option maxHeartbeats 1600000 in
set_option maxRecDepth 100000 in
theorem near_any (a : Addr) (l : List C) (s x y r most : Int) (w : World) (h : Gr w a l s) (hmb : B64 most) :
    Calls Try.prog 12 #[.pointer (some a), .int .i64 x, .int .i64 y, .int .i64 r, .int .i64 most] w fun e w' => ∃ v, e = .returned (.tuple #[v, .int .i64 ((nearT l x y r most).2 : Int)]) ∧ InTo w.heap.size w (nearT l x y r most).1 v w' := by
  by_cases hbad : ¬ may x y ∨ r < 0 ∨ 1048576 < r ∨ most < 0
  · have hT : nearT l x y r most = ([], 2) := by unfold nearT; rw [if_pos hbad]
    have HT := Lib.hid hT
    obtain ⟨g, A, n, c, b, base, D, rfl, hi⟩ := h.open
    have hs1 := (right_ok hi.ok).2.1
    have hc0 := hi.c0
    clear hi h hT
    by_cases hm : may x y
    · have dm : decide (may x y) = true := decide_eq_true hm
      by_cases h1 : r < 0
      · have d1 : decide (r < 0) = true := decide_eq_true h1
        go_enter Try.func12, Try.ntmps12
        go_wp2_with fail
        refine (made_any g s w hc0 (by omega)).mono ?_
        rintro e1 w1 ⟨rfl, hw1⟩
        rw [hw1]
        clear hw1 w1
        go_wp2_with fail
        refine (may_any x y w).mono ?_
        rw [dm]
        rintro e1 w1 ⟨rfl, hw1⟩
        rw [hw1]
        clear hw1 w1
        go_wp2
        go_ret2
        rw [HT.out]
        exact ⟨_, rfl, InTo.nil (Below.refl _ _)⟩
      · have d1 : decide (r < 0) = false := decide_eq_false h1
        by_cases h2 : 1048576 < r
        · have d2 : decide (1048576 < r) = true := decide_eq_true h2
          go_enter Try.func12, Try.ntmps12
          go_wp2_with fail
          refine (made_any g s w hc0 (by omega)).mono ?_
          rintro e1 w1 ⟨rfl, hw1⟩
          rw [hw1]
          clear hw1 w1
          go_wp2_with fail
          refine (may_any x y w).mono ?_
          rw [dm]
          rintro e1 w1 ⟨rfl, hw1⟩
          rw [hw1]
          clear hw1 w1
          go_wp2
          go_ret2
          rw [HT.out]
          exact ⟨_, rfl, InTo.nil (Below.refl _ _)⟩
        · have d2 : decide (1048576 < r) = false := decide_eq_false h2
          by_cases h3 : most < 0
          · have d3 : decide (most < 0) = true := decide_eq_true h3
            go_enter Try.func12, Try.ntmps12
            go_wp2_with fail
            refine (made_any g s w hc0 (by omega)).mono ?_
            rintro e1 w1 ⟨rfl, hw1⟩
            rw [hw1]
            clear hw1 w1
            go_wp2_with fail
            refine (may_any x y w).mono ?_
            rw [dm]
            rintro e1 w1 ⟨rfl, hw1⟩
            rw [hw1]
            clear hw1 w1
            go_wp2
            go_ret2
            rw [HT.out]
            exact ⟨_, rfl, InTo.nil (Below.refl _ _)⟩
          · have d3 : decide (most < 0) = false := decide_eq_false h3
            exact absurd hbad (fun h => h.elim (fun h => h hm) (fun h => by omega))
    · have dm : decide (may x y) = false := decide_eq_false hm
      go_enter Try.func12, Try.ntmps12
      go_wp2_with fail
      refine (made_any g s w hc0 (by omega)).mono ?_
      rintro e1 w1 ⟨rfl, hw1⟩
      rw [hw1]
      clear hw1 w1
      go_wp2_with fail
      refine (may_any x y w).mono ?_
      rw [dm]
      rintro e1 w1 ⟨rfl, hw1⟩
      rw [hw1]
      clear hw1 w1
      go_wp2
      go_ret2
      rw [HT.out]
      exact ⟨_, rfl, InTo.nil (Below.refl _ _)⟩
  · have hm : may x y := Classical.byContradiction fun h => hbad (.inl h)
    have hT : nearT l x y r most = (nums (near (x, y) l r most.toNat), 0) := by unfold nearT; rw [if_neg hbad]
    rw [hT]
    exact near_ok a l s x y r most w h hm (by omega) (by omega) (by omega) hmb.2

/-- What the best one lies in. -/
structure Ne (f : Nat → Int) (n gn : Nat) (ws wr : World) (k b : Nat) : Prop where
  best : Best f k b
  lt : b < n
  blk : wr.heap[gn]? = some (.cells #[.int .i64 (b : Int), .int .i64 (f b)] 57)
  below : Below gn ws wr
theorem Ne.keep {f : Nat → Int} {n gn : Nat} {ws wr w' : World} {k b : Nat} (h : Ne f n gn ws wr k b) (hb : Below wr.heap.size wr w') : Ne f n gn ws w' k b :=
  ⟨h.best, h.lt, (hb.block _ (Array.getElem?_eq_some_iff.1 h.blk).1).trans h.blk, h.below.trans (hb.mono (Nat.le_of_lt (Array.getElem?_eq_some_iff.1 h.blk).1))⟩

set_option maxHeartbeats 3200000 in
set_option maxRecDepth 100000 in
theorem nearest_any (a : Addr) (l : List C) (s x y : Int) (w : World) (h : Gr w a l s) :
    Calls Try.prog 13 #[.pointer (some a), .int .i64 x, .int .i64 y] w fun e w' => e = .returned (.tuple #[.int .i64 (nstT l x y).1, .bool (nstT l x y).2]) ∧ Below w.heap.size w w' := by
  by_cases hl0 : l.length = 0
  · have hT : nstT l x y = (0, false) := by unfold nstT; rw [near_void hl0]; simp
    rw [hT]
    go_enter Try.func13, Try.ntmps13
    go_wp2_with fail
    refine (len_any a l s w h).mono ?_
    rw [hl0]
    rintro e1 w1 ⟨rfl, hb1⟩
    go_wp2
    go_ret2
    exact ⟨rfl, hb1⟩
  · have hlb : ((l.length : Int) == 0) = false := beq_eq_false_iff_ne.2 (by omega)
    by_cases hm : may x y
    · have dm : decide (may x y) = true := decide_eq_true hm
      have HLN := Lib.hid hl0
      have HGR := Lib.hid h
      obtain ⟨g, A, n, c, b, base, D, rfl, hi⟩ := h.open
      have HL : Hid (l.length = n) := hi.row.1
      have hn4 : n ≤ 4096 := by have h1 := (right_ok hi.ok).1; have h2 : l.length = n := hi.row.1; omega
      have HI := Lib.hid hi
      obtain ⟨f, hf⟩ : ∃ f, dq (x, y) l = f := ⟨_, rfl⟩
      have HF := Lib.hid hf
      have HM := Lib.hid hm
      clear hi h hl0 hf hm
      go_enter Try.func13, Try.ntmps13
      go_wp2_with fail
      refine (len_any _ l s w HGR.out).mono ?_
      rintro e1 w1 ⟨rfl, hb1⟩
      have HG1 := Lib.hid (HGR.out.keep hb1)
      have HI1 := Lib.hid (HI.out.keep hb1)
      have HB1 := Lib.hid hb1
      clear hb1 HGR HI
      go_wp2_with fail
      refine (may_any x y w1).mono ?_
      rw [dm]
      rintro e1 w2 ⟨rfl, hw2⟩
      rw [hw2]
      clear hw2 w2
      go_wp2_with fail
      refine (point_any _ l s 0 x y w1 HG1.out (by have := HLN.out; omega)).mono ?_
      rw [HF.out]
      rintro e2 w2 ⟨rfl, hb2⟩
      have HG2 := Lib.hid (HG1.out.keep hb2)
      have HI2 := Lib.hid (HI1.out.keep hb2)
      have HB2 := Lib.hid (HB1.out.trans (hb2.mono HB1.out.size))
      clear hb2 HG1 HI1 HB1
      have hba := (Below.refl w2.heap.size w2).alloc (Nat.le_refl _) (.cells #[.int .i64 0, .int .i64 (f 0)] 57)
      have HNE : Hid (Ne f n w2.heap.size w2 (w2.alloc (.cells #[.int .i64 0, .int .i64 (f 0)] 57)) 0 0) := ⟨fun j hj => absurd hj (by omega), by have h1 := HLN.out; have h2 := HL.out; omega, heap_alloc_new w2 _, hba⟩
      have hc1 := (HI2.out.keep hba).c1
      have HSZ : Hid (w.heap.size ≤ w2.heap.size) := HB2.out.size
      clear hba
      go_upto_region 4 with fail
      obtain ⟨gn, hgn⟩ : ∃ gn, w2.heap.size = gn := ⟨_, rfl⟩
      have HGN := Lib.hid hgn
      rw [hgn] at HNE HSZ
      rw [hgn]
      generalize w2.alloc (.cells #[.int .i64 0, .int .i64 (f 0)] 57) = w3 at *
      clear hgn HI2
      go_wp2
      clear hc1
      go_loopw [29] (fun i wr => ∃ k b : Nat, k ≤ n ∧ i = .int .i64 (k : Int) ∧ Hid (Ne f n gn w2 wr k b))
        (fun i _ => n - (intOf i).toNat)
      case atStart => exact ⟨0, 0, Nat.zero_le _, rfl, HNE⟩
      case round =>
        clear HNE
        obtain ⟨k, b1, hk, rfl, HNE⟩ := hrel
        by_cases hkn : k < n
        · have e1 : decide ((k : Int) < (n : Int)) = true := decide_eq_true (by omega)
          have HGw : Hid (Gr wr ⟨g, 0, none⟩ l s) := HG2.out.keep (by have h := HNE.out.below; rw [← HGN.out] at h; exact h)
          have HKL : Hid (k < l.length) := by unfold Hid; rw [HL.out]; exact hkn
          go_wp2_with fail
          refine (point_any _ l s k x y wr HGw.out HKL.out).mono ?_
          rw [HF.out]
          rintro e4 w4 ⟨rfl, hb4⟩
          have HN4 := Lib.hid (HNE.out.keep hb4)
          clear hb4 HNE HGw
          have hba := (Below.refl w4.heap.size w4).alloc (Nat.le_refl _) (.cells #[.int .i64 (k : Int), .int .i64 (f k)] 57)
          have HN5 := Lib.hid (HN4.out.keep hba)
          have HA5 := Lib.hid (heap_alloc_new w4 (.cells #[.int .i64 (k : Int), .int .i64 (f k)] 57))
          clear hba HN4
          go_upto_region 8 with fail
          generalize w4.alloc (.cells #[.int .i64 (k : Int), .int .i64 (f k)] 57) = w5 at *
          generalize w4.heap.size = g5 at *
          have q1 : w5.cell? ⟨g5, 0, none⟩ = some (.int .i64 (k : Int)) := cell_of_blk HA5.out rfl
          have q2 : w5.cell? ⟨g5, 1, none⟩ = some (.int .i64 (f k)) := cell_of_blk HA5.out rfl
          have q3 : w5.cell? ⟨gn, 0, none⟩ = some (.int .i64 (b1 : Int)) := cell_of_blk HN5.out.blk rfl
          have q4 : w5.cell? ⟨gn, 1, none⟩ = some (.int .i64 (f b1)) := cell_of_blk HN5.out.blk rfl
          obtain ⟨u, hu⟩ : ∃ u, cf ((k : Int), f k) ((b1 : Int), f b1) = u := ⟨_, rfl⟩
          have HO := Lib.hid (order_any ((k : Int), f k) ((b1 : Int), f b1) w5)
          rw [hu] at HO
          have HST := Lib.hid (best_step HN5.out.best)
          have hu2 : cf (pt f k) (pt f b1) = u := hu
          rw [hu2] at HST
          have hwk : IntKind.i64.wrap ((k : Int) + 1) = (k : Int) + 1 := IntWalk.i64_in _ ⟨by omega, by omega⟩
          clear hu hu2
          go_wp2_with fail
          refine HO.out.mono ?_
          rintro e6 w6 ⟨rfl, hgw6⟩
          have HN6 := Lib.hid (HN5.out.keep hgw6.below)
          have HA6 := Lib.hid ((hgw6.below.block g5 (Array.getElem?_eq_some_iff.1 HA5.out).1).trans HA5.out)
          clear hgw6 HO q1 q2 q3 q4 HN5 HA5
          have q1 : w6.cell? ⟨g5, 0, none⟩ = some (.int .i64 (k : Int)) := cell_of_blk HA6.out rfl
          have q2 : w6.cell? ⟨g5, 1, none⟩ = some (.int .i64 (f k)) := cell_of_blk HA6.out rfl
          by_cases hun : u < 0
          · have e2 : decide (u < 0) = true := decide_eq_true hun
            rw [if_pos hun] at HST
            have q3 : w6.cell? ⟨gn, 0, none⟩ = some (.int .i64 (b1 : Int)) := cell_of_blk HN6.out.blk rfl
            have q4 : w6.cell? ⟨gn, 1, none⟩ = some (.int .i64 (f b1)) := cell_of_blk HN6.out.blk rfl
            have q5 : w6.frozen? ⟨gn, 0, none⟩ = false := free_of_blk HN6.out.blk
            have q6 : w6.frozen? ⟨gn, 1, none⟩ = false := free_of_blk HN6.out.blk
            have HNX : Hid (Ne f n gn w2 ((w6.setCell ⟨gn, 0, none⟩ (.int .i64 (k : Int))).setCell ⟨gn, 1, none⟩ (.int .i64 (f k))) (k + 1) k) := by
              have hlt : gn < w6.heap.size := (Array.getElem?_eq_some_iff.1 HN6.out.blk).1
              have h1 := Only.setCell w6 ⟨gn, 0, none⟩ (.int .i64 (k : Int))
              have h2 := Only.setCell (w6.setCell ⟨gn, 0, none⟩ (.int .i64 (k : Int))) ⟨gn, 1, none⟩ (.int .i64 (f k))
              exact ⟨HST.out, hkn, set_blk (set_blk HN6.out.blk), (HN6.out.below.trans (h1.below (Nat.le_of_lt hlt) (fun j hj => by subst hj; exact Nat.le_refl _))).trans (h2.below (Nat.le_trans (Nat.le_of_lt hlt) h1.size) (fun j hj => by subst hj; exact Nat.le_refl _))⟩
            clear HN6 HST hun
            go_wp2
            go_roundw
            case rel => exact ⟨k + 1, k, by omega, by go_num, HNX⟩
            case measure => simp [intOf]; omega
          · have e2 : decide (u < 0) = false := decide_eq_false hun
            rw [if_neg hun] at HST
            have HNX : Hid (Ne f n gn w2 w6 (k + 1) b1) := ⟨HST.out, HN6.out.lt, HN6.out.blk, HN6.out.below⟩
            clear HN6 HST hun
            go_wp2
            go_roundw
            case rel => exact ⟨k + 1, b1, by omega, by go_num, HNX⟩
            case measure => simp [intOf]; omega
        · obtain rfl : k = n := by omega
          have e1 : decide ((k : Int) < (k : Int)) = false := decide_eq_false (by omega)
          have q3 : wr.cell? ⟨gn, 0, none⟩ = some (.int .i64 (b1 : Int)) := cell_of_blk HNE.out.blk rfl
          have HT : Hid (nstT l x y = ((b1 : Int), true)) := by
            unfold Hid nstT
            rw [if_pos HM.out, best_near (l := l) (x := x) (y := y) (b := b1) (by rw [HL.out]; exact HNE.out.lt) (by rw [HL.out, HF.out]; exact HNE.out.best)]
          have HBE : Hid (Below w.heap.size w wr) := HB2.out.trans (HNE.out.below.mono HSZ.out)
          go_wp2
          go_ret2
          rw [HT.out]
          exact ⟨rfl, HBE.out⟩
    · have dm : decide (may x y) = false := decide_eq_false hm
      have hT : nstT l x y = (0, false) := by unfold nstT; rw [if_neg hm]
      rw [hT]
      go_enter Try.func13, Try.ntmps13
      go_wp2_with fail
      refine (len_any a l s w h).mono ?_
      rintro e1 w1 ⟨rfl, hb1⟩
      go_wp2_with fail
      refine (may_any x y w1).mono ?_
      rw [dm]
      rintro e1 w2 ⟨rfl, hw2⟩
      rw [hw2]
      clear hw2 w2
      go_wp2
      go_ret2
      exact ⟨rfl, hb1⟩
end Go.Proofs.Ytddlenbahidkaaa.Gd
