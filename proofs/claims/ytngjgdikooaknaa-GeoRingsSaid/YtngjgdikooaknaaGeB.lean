/- Layer 13 (geo): the landed program's cell and Ring, as contracts (a ring gone round by complex steps). -/
import Derived.Test.YtngjgdikooaknaaGeA
import Derived.Test.YtngjgdikooaknaaGeC
import Derived.Test.YtngjgdikooaknaaFlo
namespace Go.Proofs.Ytngjgdikooaknaa.Ge
open Go.RowKit Rec Flo

/-- Where one is, and the next step, as complex numbers. -/
structure At (x y u v : Int) (a b c d : Nat) : Prop where
  re : Fl a x
  im : Fl b y
  sr : Fl c u
  si : Fl d v

theorem results_cell_only {fn : Func} {p : Tmp} {ty : TypeId} {P : Program} (h : fn.results = #[.cell p ty]) (tmps : Array Value) (w : World) (g : Nat) (cs : Array Value)
    (hp : tmps.getD p undef = .pointer (some ⟨g, 0, none⟩)) (hl : (loadVar ty ⟨g, 0, none⟩).run P w = .ok (.agg cs) w) :
    (results fn tmps).run P w = .ok (.agg cs) w := by
  have hp' : tmps[p]?.getD undef = .pointer (some ⟨g, 0, none⟩) := by simpa using hp
  simp [results, h, hp', asAddr, hl]

set_option maxRecDepth 100000 in
theorem cell_any (a b : Nat) (X Y : Int) (w : World) (t1 : floatToIntVal .f64 a .i64 = some X) (t2 : floatToIntVal .f64 b .i64 = some Y) :
    Calls Try.prog 19 #[.complex .f64 a b] w fun e w' => e = .returned (.agg #[.int .i64 X, .int .i64 Y]) ∧ Below w.heap.size w w' := by
  have v1 : ∀ wx : World, (convert 44 3 (.float .f64 a)).run Try.prog wx = .ok (.int .i64 X) wx := fun wx => run_convert_float_int wx _ _ _ _ _ _ (by kernel_rfl) (by kernel_rfl) t1
  have v2 : ∀ wx : World, (convert 44 3 (.float .f64 b)).run Try.prog wx = .ok (.int .i64 Y) wx := fun wx => run_convert_float_int wx _ _ _ _ _ _ (by kernel_rfl) (by kernel_rfl) t2
  have HB : Hid (Below w.heap.size w (w.alloc (.cells #[.int .i64 X, .int .i64 Y] 35))) := (Below.refl _ _).alloc (Nat.le_refl _) _
  go_enter Try.func19, Try.ntmps19
  have I2 : (Try.prog.info? 35).map (·.size) = some #[(.int .i64 X : Value), .int .i64 Y].size := by kernel_rfl
  go_wp2
  refine bodyPost_ret (results_cell_only rfl _ _ w.heap.size #[.int .i64 X, .int .i64 Y] rfl (run_loadVar_row _ _ 35 35 _ (0, 0) _ (heap_alloc_new w _) Try.underlying35 rfl I2)) rfl ?_
  exact ⟨rfl, HB.out⟩

set_option maxHeartbeats 3200000 in
set_option maxRecDepth 100000 in
theorem ring_round_any (r : Nat) (w : World) (hr : r ≤ 4096) (hpos : 0 < r) :
    Calls Try.prog 15 #[.int .i64 (r : Int)] w fun e w' => ∃ v, e = .returned (.tuple #[v, .int .i64 0]) ∧ TwTo w.heap.size w (ring r) v w' := by
  obtain ⟨i0, hi, hz0, hz1, hz2⟩ := info_of info_cell
  have e0 : ((r : Int) == 0) = false := beq_eq_false_iff_ne.2 (by omega)
  have el : decide ((r : Int) < 0) = false := decide_eq_false (by omega)
  have eg : decide ((4096 : Int) < (r : Int)) = false := decide_eq_false (by omega)
  have HRS := Lib.hid (ring_round hpos)
  have en : IntKind.i64.wrap (-(r : Int)) = -(r : Int) := IntWalk.i64_in _ ⟨by omega, by omega⟩
  have e2 : IntKind.i64.wrap (2 * (r : Int)) = 2 * (r : Int) := IntWalk.i64_in _ ⟨by omega, by omega⟩
  have e8 : IntKind.i64.wrap (8 * (r : Int)) = 8 * (r : Int) := IntWalk.i64_in _ ⟨by omega, by omega⟩
  have HA : Hid (At (cx r 0) (cy r 0) (dx 0) (dy 0) (floatOfInt .f64 (r : Int)) (floatOfInt .f64 (-(r : Int))) 0 4607182418800017408) := ⟨fl_int _ (by omega), fl_int _ (by omega), fl_zero, fl_one⟩
  go_enter Try.func15, Try.ntmps15
  go_wp2_with (at_make; go_loud (refine wpList_make_own _ rfl _ _ 30 rfl w.heap.size 35 i0 (.agg #[.int .i64 0, .int .i64 0]) 2 Try.underlying30 hi hz0 hz1 _ _ (8 * (r : Int)) (8 * r) rfl rfl (by omega) (by rw [hz2]; omega) (by unfold maxLen; omega) (Nat.le_refl _) ?_); intro w4 hown4 hg4; have HO4 := Lib.hid hown4; have HB4 := Lib.hid ((Below.refl w.heap.size w).grown hg4 (Nat.le_refl _) (fun j hj => by cases hj)); clear hown4 hg4)
  go_loopw [4, 5, 6, 26] (fun v p q i wr => ∃ (s a b c d : Nat), s ≤ 4 ∧ i = .int .i64 (s : Int) ∧ p = .complex .f64 a b ∧ q = .complex .f64 c d ∧ Hid (At (cx r s) (cy r s) (dx s) (dy s) a b c d) ∧ Hid (wr.ownsRow w.heap.size 35 2 v (s * (2 * r)) (twoS.flat (ahead r s))) ∧ Hid (Below w.heap.size w wr)) (fun _ _ _ i _ => 4 - (intOf i).toNat)
  case atStart => exact ⟨0, _, _, _, _, by omega, rfl, rfl, rfl, HA, by unfold Hid; rw [Nat.zero_mul]; exact HO4.out, HB4.out⟩
  case round =>
    clear HO4 HB4
    obtain ⟨s, a, b, c, d, hs, rfl, rfl, rfl, HAT, HO, HB⟩ := hrel
    by_cases hlt : s < 4
    · have d1 : decide ((s : Int) < 4) = true := decide_eq_true (by omega)
      go_wp2
      go_loopw [4, 5, 30] (fun v p i wr => ∃ (k a b : Nat), k ≤ 2 * r ∧ i = .int .i64 (k : Int) ∧ p = .complex .f64 a b ∧ Hid (At (cx r s + dx s * (k : Int)) (cy r s + dy s * (k : Int)) (dx s) (dy s) a b c d) ∧ Hid (wr.ownsRow w.heap.size 35 2 v (s * (2 * r) + k) (twoS.flat (ahead r s ++ sd r s k))) ∧ Hid (Below w.heap.size w wr)) (fun _ _ i _ => 2 * r - (intOf i).toNat)
      case atStart => exact ⟨0, a, b, Nat.zero_le _, rfl, rfl, by have h := HAT.out; exact ⟨by simpa using h.re, by simpa using h.im, h.sr, h.si⟩, by unfold Hid; rw [sd_zero, List.append_nil]; exact HO.out, HB.out⟩
      case round =>
        clear HO HB HAT
        obtain ⟨k, a, b, hk, rfl, rfl, HAT, HO, HB⟩ := hrel
        by_cases hkt : k < 2 * r
        · have d2 : decide ((k : Int) < 2 * (r : Int)) = true := decide_eq_true (by omega)
          have hsm := small_at (r := r) (s := s) (k := k + 1) (by omega)
          have hat := HAT.out
          have ex : dx s * ((k + 1 : Nat) : Int) = dx s * (k : Int) + dx s := by rw [Int.natCast_add, Int.mul_add]; show _ + dx s * 1 = _; rw [Int.mul_one]
          have ey : dy s * ((k + 1 : Nat) : Int) = dy s * (k : Int) + dy s := by rw [Int.natCast_add, Int.mul_add]; show _ + dy s * 1 = _; rw [Int.mul_one]
          rw [ex, ey] at hsm
          obtain ⟨re, im, es, f1, f2⟩ := fl_csum hat.re hat.im hat.sr hat.si (by omega) (by omega)
          have hrun : ∀ wx : World, (binOp .add 43 (.complex .f64 a b) (.complex .f64 c d)).run Try.prog wx = .ok (.complex .f64 re im) wx := fun wx => run_complex_sum wx .add (.inl rfl) _ _ _ _ _ _ _ _ es
          have t1 : floatToIntVal .f64 re .i64 = some (cx r s + dx s * ((k : Int) + 1)) := by rw [Int.mul_add, Int.mul_one, ← Int.add_assoc]; exact fl_toInt f1 (by omega)
          have t2 : floatToIntVal .f64 im .i64 = some (cy r s + dy s * ((k : Int) + 1)) := by rw [Int.mul_add, Int.mul_one, ← Int.add_assoc]; exact fl_toInt f2 (by omega)
          have HAN : Hid (At (cx r s + dx s * ((k + 1 : Nat) : Int)) (cy r s + dy s * ((k + 1 : Nat) : Int)) (dx s) (dy s) re im c d) := ⟨by rw [ex, ← Int.add_assoc]; exact f1, by rw [ey, ← Int.add_assoc]; exact f2, hat.sr, hat.si⟩
          have HN := Lib.hid (sd_next r s k)
          generalize hX : cx r s + dx s * ((k : Int) + 1) = X at *
          generalize hY : cy r s + dy s * ((k : Int) + 1) = Y at *
          have hsr : s * (2 * r) ≤ 4 * 8192 := Nat.mul_le_mul (by omega) (by omega)
          have T1 := Lib.hid t1
          have T2 := Lib.hid t2
          have hbs := HB.out.size
          clear f1 f2 hat es t1 t2 hX hY ex ey hsm HAT
          go_wp2_with fail
          refine (cell_any re im X Y _ T1.out T2.out).mono ?_
          rintro e1 w5 ⟨rfl, hb5⟩
          have HO5 := Lib.hid (ownr_below HO.out hb5)
          have HB5 := Lib.hid (HB.out.trans (hb5.mono hbs))
          have hbs5 := HB5.out.size
          clear hb5
          obtain ⟨A', c', rfl, -⟩ := ownr_slice HO.out
          have HDO := Lib.hid (ownr_alloc HO5.out (.cells #[.int .i64 X, .int .i64 Y] 35))
          have HNEW := Lib.hid (new_two w5 (X, Y) 35)
          go_wp2_with (at_builtin; go_loud (refine push_rec twoS rfl (.tmp 35) (.tmp 38) 30 rfl w.heap.size 35 i0 (.agg #[.int .i64 0, .int .i64 0]) 16 Try.underlying30 hi hz0 rfl hz1 hz2 _ (s * (2 * r) + k) (ahead r s ++ sd r s k) rfl HDO.out ⟨w5.heap.size, 0, none⟩ (X, Y) rfl HNEW.out (by omega) (by omega) (by simp; omega) ?_); intro v2 w2 hown2 _ hb2; have HO2 := Lib.hid hown2; have HB2 := Lib.hid ((HB5.out.alloc HB5.out.size _).trans hb2); clear hown2 hb2)
          go_wp2
          go_roundw
          case rel =>
            have HOW : w2.ownsRow w.heap.size 35 2 v2 (s * (2 * r) + (k + 1)) (twoS.flat (ahead r s ++ sd r s (k + 1))) := by
              rw [HN.out, ← List.append_assoc]
              exact HO2.out
            first | exact ⟨k + 1, re, im, by omega, by go_num, rfl, HAN, HOW, HB2⟩ | exact ⟨k + 1, re, im, by omega, by push_cast; omega, ⟨rfl, rfl⟩, HAN, HOW⟩
          case measure => simp [intOf]; omega
        · have hkn : k = 2 * r := by omega
          subst hkn
          have d2 : decide (((2 * r : Nat) : Int) < 2 * (r : Int)) = false := decide_eq_false (by omega)
          have hat := HAT.out
          have hd := small_d s
          obtain ⟨re, im, es, f1, f2⟩ := fl_cmul hat.sr hat.si fl_zero fl_one (by omega) (by omega) (by omega) (by omega) (by omega) (by omega)
          have hrun : ∀ wx : World, (binOp .mul 43 (.complex .f64 c d) (.complex .f64 0 4607182418800017408)).run Try.prog wx = .ok (.complex .f64 re im) wx := fun wx => run_complex_mul wx _ _ _ _ _ _ _ es
          have HAN : Hid (At (cx r (s + 1)) (cy r (s + 1)) (dx (s + 1)) (dy (s + 1)) a b re im) := ⟨by rw [← corner_x hlt]; exact hat.re, by rw [← corner_y hlt]; exact hat.im, by rw [← turn_x hlt]; exact f1, by rw [← turn_y hlt]; exact f2⟩
          have eN : (s + 1) * (2 * r) = s * (2 * r) + 2 * r := by rw [Nat.add_mul, Nat.one_mul]
          have HEN := Lib.hid eN
          clear f1 f2 hat es HAT hd eN
          go_wp2
          go_roundw
          case rel => exact ⟨s + 1, a, b, re, im, by omega, by go_num, rfl, rfl, HAN, by unfold Hid; rw [HEN.out]; exact HO.out, HB⟩
          case measure => simp [intOf]; omega
    · have hs4 : s = 4 := by omega
      subst hs4
      have d1 : decide ((4 : Int) < 4) = false := by decide
      go_wp2
      go_ret2
      refine ⟨_, rfl, TwTo.of_own (n := 4 * (2 * r)) (e := 35) ?_ HB.out⟩
      rw [HRS.out]
      exact HO.out

set_option maxRecDepth 100000 in
theorem ring_any (r : Int) (w : World) : Calls Try.prog 15 #[.int .i64 r] w fun e w' => ∃ v, e = .returned (.tuple #[v, .int .i64 ((ringT r).2 : Int)]) ∧ TwTo w.heap.size w (ringT r).1 v w' := by
  by_cases h1 : r < 0
  · have e : ringT r = ([], 3) := by unfold ringT; rw [if_pos (.inl h1)]
    rw [e]
    have el : decide (r < 0) = true := decide_eq_true h1
    go_enter Try.func15, Try.ntmps15
    go_wp2
    go_ret2
    exact ⟨_, rfl, none, 0, 0, rfl, RRow.nil_, fun _ => rfl, Nat.le_refl _, Nat.zero_le _, Below.refl _ _⟩
  by_cases h2 : 4096 < r
  · have e : ringT r = ([], 3) := by unfold ringT; rw [if_pos (.inr h2)]
    rw [e]
    have el : decide (r < 0) = false := decide_eq_false h1
    have eg : decide (4096 < r) = true := decide_eq_true h2
    go_enter Try.func15, Try.ntmps15
    go_wp2
    go_ret2
    exact ⟨_, rfl, none, 0, 0, rfl, RRow.nil_, fun _ => rfl, Nat.le_refl _, Nat.zero_le _, Below.refl _ _⟩
  have e : ringT r = (ring r.toNat, 0) := by unfold ringT; rw [if_neg (by omega)]
  rw [e]
  obtain ⟨n, rfl⟩ : ∃ n : Nat, r = (n : Int) := ⟨r.toNat, by omega⟩
  rw [Int.toNat_natCast]
  by_cases h0 : n = 0
  · subst h0
    go_enter Try.func15, Try.ntmps15
    go_wp2
    go_ret2
    refine ⟨_, rfl, some ⟨w.heap.size, 0, none⟩, 1, 1, rfl, ?_, fun h => (by cases h), Nat.le_refl _, by unfold maxLen; omega, (Below.refl _ _).alloc (Nat.le_refl _) _⟩
    exact RRow.of_blk (S := twoS) (l := [(0, 0)]) (heap_alloc_new w _) (by simp) rfl
  · exact ring_round_any n w (by omega) (by omega)

theorem oks : Oks where
  may x y w _ _ := (may_any x y w).mono fun _ _ h => ⟨h.1, by rw [h.2]; exact Below.refl _ _⟩
  square a b w _ _ := square_any a b w
  side a b c w _ _ _ := side_any a b c w
  root n w h := root_any n w h
  ring r w _ := ring_any r w
end Go.Proofs.Ytngjgdikooaknaa.Ge
