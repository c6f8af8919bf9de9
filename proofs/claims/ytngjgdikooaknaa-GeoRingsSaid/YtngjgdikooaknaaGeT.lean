/- Layer 13 (geo): the reference's Root and Ring, as contracts. -/
import Derived.Test.YtngjgdikooaknaaGeS
namespace Go.Proofs.Ytngjgdikooaknaa.Ge
open Go.RowKit Rec

theorem half_in {x y : Nat} (h : x + 1 < y) : x < (x + y) / 2 ∧ (x + y) / 2 < y := by omega
/-- Where a root lies, between two numbers. -/
def Bet (n : Int) (x y : Nat) : Prop := x < y ∧ y ≤ 3037000500 ∧ (n < 0 → x = 0) ∧ (0 ≤ n → (x : Int) * x ≤ n ∧ n < (y : Int) * y)
theorem bet_end {n : Int} {x y : Nat} (h : Bet n x y) (hx : ¬ x + 1 < y) : IsRoot n x := by
  obtain ⟨h1, h2, h3, h4⟩ := h
  rcases Int.lt_or_le n 0 with hn | hn
  · exact .inl ⟨hn, by rw [h3 hn]; rfl⟩
  · exact root_end hn (by omega) (h4 hn).1 (h4 hn).2 (by omega) (by omega)
theorem bet_low {n : Int} {x y : Nat} (h : Bet n x y) (hx : x + 1 < y) (hm : (((x + y) / 2 : Nat) : Int) * (((x + y) / 2 : Nat) : Int) ≤ n) : Bet n ((x + y) / 2) y := by
  obtain ⟨h1, h2, h3, h4⟩ := h
  have hh := half_in hx
  refine ⟨hh.2, h2, fun hn => ?_, fun hn => ⟨hm, (h4 hn).2⟩⟩
  have := sqn (((x + y) / 2 : Nat) : Int)
  omega
theorem bet_high {n : Int} {x y : Nat} (h : Bet n x y) (hx : x + 1 < y) (hm : ¬ (((x + y) / 2 : Nat) : Int) * (((x + y) / 2 : Nat) : Int) ≤ n) : Bet n x ((x + y) / 2) := by
  obtain ⟨h1, h2, h3, h4⟩ := h
  have hh := half_in hx
  exact ⟨hh.1, by omega, h3, fun hn => ⟨(h4 hn).1, by omega⟩⟩
theorem sq_small {m : Nat} (h : m ≤ 3037000499) : (m : Int) * (m : Int) ≤ 9223372030926249001 := by
  have : m * m ≤ 3037000499 * 3037000499 := Nat.mul_le_mul h h
  have e : ((m * m : Nat) : Int) = (m : Int) * (m : Int) := Int.natCast_mul m m
  omega

set_option maxHeartbeats 800000 in
set_option maxRecDepth 100000 in
theorem refroot_any (n : Int) (w : World) (hn : B64 n) : Calls Try.prog 14 #[.int .i64 n] w fun e w' => (∃ x, e = .returned (.int .i64 x) ∧ IsRoot n x) ∧ w' = w := by
  have HN := Lib.hid hn
  clear hn
  have HB0 : Hid (Bet n 0 3037000500) := by
    refine ⟨by omega, by omega, fun _ => rfl, fun h => ⟨by simpa using h, ?_⟩⟩
    have := HN.out.2
    exact root_top this
  go_enter Try.func14, Try.ntmps14
  go_wp2
  go_loopw [3, 4] (fun u v wr => ∃ x y : Nat, u = .int .i64 (x : Int) ∧ v = .int .i64 (y : Int) ∧ Hid (Bet n x y) ∧ Hid (wr = w)) (fun u v _ => (intOf v).toNat - (intOf u).toNat)
  case atStart => exact ⟨0, 3037000500, rfl, rfl, HB0, by unfold Hid; trivial⟩
  case round =>
    obtain ⟨x, y, rfl, rfl, HB, hw⟩ := hrel
    obtain rfl := hw.out
    clear hw
    have hxy := HB.out.1
    have hy := HB.out.2.1
    by_cases hlt : x + 1 < y
    · have hh := half_in hlt
      have e1 : decide ((1 : Int) < (y : Int) - (x : Int)) = true := decide_eq_true (by omega)
      have ew : IntKind.i64.wrap ((y : Int) - (x : Int)) = (y : Int) - (x : Int) := IntWalk.i64_in _ ⟨by omega, by omega⟩
      have es : IntKind.i64.wrap ((x : Int) + (y : Int)) = (x : Int) + (y : Int) := IntWalk.i64_in _ ⟨by omega, by omega⟩
      obtain ⟨m, hm⟩ : ∃ m : Nat, (x + y) / 2 = m := ⟨_, rfl⟩
      have BL := Lib.hid (fun h => bet_low (n := n) HB.out hlt h)
      have BH := Lib.hid (fun h => bet_high (n := n) HB.out hlt h)
      rw [hm] at hh BL BH
      have hq := sq_small (m := m) (by omega)
      have hq0 := sqn (m : Int)
      have et : Int.tdiv ((x : Int) + (y : Int)) 2 = (m : Int) := by rw [Int.tdiv_eq_ediv_of_nonneg (by omega)]; omega
      have et' : ((x : Int) + (y : Int)) / 2 = (m : Int) := by omega
      have em : IntKind.i64.wrap (m : Int) = (m : Int) := IntWalk.i64_in _ ⟨by omega, by omega⟩
      have eq_ : IntKind.i64.wrap ((m : Int) * (m : Int)) = (m : Int) * (m : Int) := IntWalk.i64_in _ ⟨by omega, by omega⟩
      clear hq hq0 hm
      by_cases hc : (m : Int) * (m : Int) ≤ n
      · have e2 : decide ((m : Int) * (m : Int) ≤ n) = true := decide_eq_true hc
        have B2 := Lib.hid (BL.out hc)
        clear BL BH HB hc
        go_wp2
        go_roundw
        case rel => exact ⟨m, y, rfl, rfl, B2, by unfold Hid; trivial⟩
        case measure => simp [intOf]; omega
      · have e2 : decide ((m : Int) * (m : Int) ≤ n) = false := decide_eq_false hc
        have B2 := Lib.hid (BH.out hc)
        clear BL BH HB hc
        go_wp2
        go_roundw
        case rel => exact ⟨x, m, rfl, rfl, B2, by unfold Hid; trivial⟩
        case measure => simp [intOf]; omega
    · have e1 : decide ((1 : Int) < (y : Int) - (x : Int)) = false := decide_eq_false (by omega)
      have ew : IntKind.i64.wrap ((y : Int) - (x : Int)) = (y : Int) - (x : Int) := IntWalk.i64_in _ ⟨by omega, by omega⟩
      have HE := Lib.hid (bet_end HB.out hlt)
      go_wp2
      go_ret
      exact ⟨⟨_, rfl, HE.out⟩, rfl⟩


def side1 (r k : Nat) : List C := (List.range k).map (fun i : Nat => ((r : Int), 1 - (r : Int) + (i : Int)))
def side2 (r k : Nat) : List C := (List.range k).map (fun i : Nat => ((r : Int) - 1 - (i : Int), (r : Int)))
def side3 (r k : Nat) : List C := (List.range k).map (fun i : Nat => (-(r : Int), (r : Int) - 1 - (i : Int)))
def side4 (r k : Nat) : List C := (List.range k).map (fun i : Nat => (1 - (r : Int) + (i : Int), -(r : Int)))
theorem own_len {w : World} {base n n' size : Nat} {e : TypeId} {v : Value} {xs : List Value} (h : w.ownsRow base e size v n xs) (hn : n = n') : w.ownsRow base e size v n' xs := hn ▸ h
theorem ring_sides {r : Nat} (h : 0 < r) : ring r = side1 r (2 * r) ++ (side2 r (2 * r) ++ (side3 r (2 * r) ++ side4 r (2 * r))) := by
  unfold ring
  rw [if_neg (by omega)]
  rfl
theorem side1_next (r k : Nat) : side1 r (k + 1) = side1 r k ++ [((r : Int), 1 - (r : Int) + (k : Int))] := by unfold side1; rw [List.range_succ, List.map_append]; rfl
theorem side1_len (r k : Nat) : (side1 r k).length = k := by unfold side1; simp
theorem side2_next (r k : Nat) : side2 r (k + 1) = side2 r k ++ [((r : Int) - 1 - (k : Int), (r : Int))] := by unfold side2; rw [List.range_succ, List.map_append]; rfl
theorem side2_len (r k : Nat) : (side2 r k).length = k := by unfold side2; simp
theorem side3_next (r k : Nat) : side3 r (k + 1) = side3 r k ++ [(-(r : Int), (r : Int) - 1 - (k : Int))] := by unfold side3; rw [List.range_succ, List.map_append]; rfl
theorem side3_len (r k : Nat) : (side3 r k).length = k := by unfold side3; simp
theorem side4_next (r k : Nat) : side4 r (k + 1) = side4 r k ++ [(1 - (r : Int) + (k : Int), -(r : Int))] := by unfold side4; rw [List.range_succ, List.map_append]; rfl
theorem side4_len (r k : Nat) : (side4 r k).length = k := by unfold side4; simp

set_option maxHeartbeats 3200000 in
set_option maxRecDepth 100000 in
theorem refring_any (r : Nat) (w : World) (hr : r ≤ 4096) : Calls Try.prog 16 #[.int .i64 (r : Int)] w fun e w' => ∃ v, e = .returned v ∧ TwTo w.heap.size w (ring r) v w' := by
  obtain ⟨i0, hi, hz0, hz1, hz2⟩ := info_of info_cell
  by_cases h0 : r = 0
  · subst h0
    go_enter Try.func16, Try.ntmps16
    go_wp2
    go_ret
    refine ⟨_, rfl, some ⟨w.heap.size, 0, none⟩, 1, 1, rfl, ?_, fun h => (by cases h), Nat.le_refl _, by unfold maxLen; omega, (Below.refl _ _).alloc (Nat.le_refl _) _⟩
    exact RRow.of_blk (S := twoS) (l := [(0, 0)]) (heap_alloc_new w _) (by simp) rfl
  have hpos : 0 < r := by omega
  have e0 : ((r : Int) == 0) = false := beq_eq_false_iff_ne.2 (by omega)
  have HRS := Lib.hid (ring_sides hpos)
  go_enter Try.func16, Try.ntmps16
  go_wp2
  go_loopw [3, 4] (fun v i wr => ∃ k : Nat, k ≤ 2 * r ∧ i = .int .i64 (1 - (r : Int) + (k : Int)) ∧ Hid (wr.ownsRow w.heap.size 35 2 v (0 + k) (twoS.flat (side1 r k))) ∧ Hid (Below w.heap.size w wr)) (fun _ i _ => ((r : Int) + 1 - intOf i).toNat)
  case atStart => exact ⟨0, Nat.zero_le _, by go_num, World.ownsRow_nil _ _ _ _, Below.refl _ _⟩
  case round =>
    obtain ⟨k, hk, rfl, HO, HB⟩ := hrel
    by_cases hlt : k < 2 * r
    · have HN := Lib.hid (side1_next r k)
      obtain ⟨A', c', rfl, -⟩ := ownr_slice HO.out
      have HDO := Lib.hid (ownr_alloc HO.out (.cells #[.int .i64 ((r : Int)), .int .i64 (1 - (r : Int) + (k : Int))] 35))
      have HNEW := Lib.hid (new_two wr ((r : Int), 1 - (r : Int) + (k : Int)) 35)
      have hbs := HB.out.size
      have ew : IntKind.i64.wrap (1 - (r : Int) + (k : Int)) = 1 - (r : Int) + (k : Int) := IntWalk.i64_in _ ⟨by omega, by omega⟩
      have en : IntKind.i64.wrap (-(r : Int)) = -(r : Int) := IntWalk.i64_in _ ⟨by omega, by omega⟩
      have e1 : decide (1 - (r : Int) + (k : Int) ≤ (r : Int)) = true := decide_eq_true (by omega)
      go_wp2_with (at_builtin; go_loud (refine push_rec twoS rfl (.tmp 19) (.tmp 23) 30 rfl w.heap.size 35 i0 (.agg #[.int .i64 0, .int .i64 0]) 16 Try.underlying30 hi hz0 rfl hz1 hz2 _ (0 + k) (side1 r k) rfl HDO.out ⟨wr.heap.size, 0, none⟩ ((r : Int), 1 - (r : Int) + (k : Int)) rfl HNEW.out (by omega) (by omega) (by simp; omega) ?_); intro v2 w2 hown2 _ hb2; have HO2 := Lib.hid hown2; have HB2 := Lib.hid ((HB.out.alloc HB.out.size _).trans hb2); clear hown2 hb2)
      go_wp2
      go_roundw
      case rel =>
        have HOW : w2.ownsRow w.heap.size 35 2 v2 (0 + (k + 1)) (twoS.flat (side1 r (k + 1))) := by
          rw [HN.out]
          exact HO2.out
        first | exact ⟨k + 1, by omega, by go_num, HOW, HB2.out⟩ | exact ⟨k + 1, by omega, by push_cast; omega, by simpa [List.append_assoc] using HOW⟩ | exact ⟨k + 1, by omega, by push_cast; omega, by unfold Hid; simpa [List.append_assoc] using HOW⟩
      case measure => simp [intOf]; omega
    · have hkn : k = 2 * r := by omega
      subst hkn
      have e1 : decide (1 - (r : Int) + ((2 * r : Nat) : Int) ≤ (r : Int)) = false := decide_eq_false (by omega)
      have en : IntKind.i64.wrap (-(r : Int)) = -(r : Int) := IntWalk.i64_in _ ⟨by omega, by omega⟩
      go_wp2
      go_loopw [3, 5] (fun v i wr => ∃ k : Nat, k ≤ 2 * r ∧ i = .int .i64 ((r : Int) - 1 - (k : Int)) ∧ Hid (wr.ownsRow w.heap.size 35 2 v (2 * r + k) (twoS.flat (side1 r (2 * r) ++ side2 r k))) ∧ Hid (Below w.heap.size w wr)) (fun _ i _ => (intOf i + (r : Int) + 1).toNat)
      case atStart => exact ⟨0, Nat.zero_le _, by go_num, by unfold Hid side2; rw [List.range_zero, List.map_nil, List.append_nil]; exact own_len HO.out (by omega), HB.out⟩
      case round =>
        clear HO HB
        obtain ⟨k, hk, rfl, HO, HB⟩ := hrel
        by_cases hlt : k < 2 * r
        · have HN := Lib.hid (side2_next r k)
          obtain ⟨A', c', rfl, -⟩ := ownr_slice HO.out
          have HDO := Lib.hid (ownr_alloc HO.out (.cells #[.int .i64 ((r : Int) - 1 - (k : Int)), .int .i64 ((r : Int))] 35))
          have HNEW := Lib.hid (new_two wr ((r : Int) - 1 - (k : Int), (r : Int)) 35)
          have hbs := HB.out.size
          have ew : IntKind.i64.wrap ((r : Int) - 1 - (k : Int)) = (r : Int) - 1 - (k : Int) := IntWalk.i64_in _ ⟨by omega, by omega⟩
          have en : IntKind.i64.wrap (-(r : Int)) = -(r : Int) := IntWalk.i64_in _ ⟨by omega, by omega⟩
          have e1 : decide (-(r : Int) ≤ (r : Int) - 1 - (k : Int)) = true := decide_eq_true (by omega)
          go_wp2_with (at_builtin; go_loud (refine push_rec twoS rfl (.tmp 33) (.tmp 37) 30 rfl w.heap.size 35 i0 (.agg #[.int .i64 0, .int .i64 0]) 16 Try.underlying30 hi hz0 rfl hz1 hz2 _ (2 * r + k) (side1 r (2 * r) ++ side2 r k) rfl HDO.out ⟨wr.heap.size, 0, none⟩ ((r : Int) - 1 - (k : Int), (r : Int)) rfl HNEW.out (by omega) (by omega) (by simp; omega) ?_); intro v2 w2 hown2 _ hb2; have HO2 := Lib.hid hown2; have HB2 := Lib.hid ((HB.out.alloc HB.out.size _).trans hb2); clear hown2 hb2)
          go_wp2
          go_roundw
          case rel =>
            have HOW : w2.ownsRow w.heap.size 35 2 v2 (2 * r + (k + 1)) (twoS.flat (side1 r (2 * r) ++ side2 r (k + 1))) := by
              rw [HN.out, ← List.append_assoc]
              exact HO2.out
            first | exact ⟨k + 1, by omega, by go_num, HOW, HB2.out⟩ | exact ⟨k + 1, by omega, by push_cast; omega, by simpa [List.append_assoc] using HOW⟩ | exact ⟨k + 1, by omega, by push_cast; omega, by unfold Hid; simpa [List.append_assoc] using HOW⟩
          case measure => simp [intOf]; omega
        · have hkn : k = 2 * r := by omega
          subst hkn
          have e1 : decide (-(r : Int) ≤ (r : Int) - 1 - ((2 * r : Nat) : Int)) = false := decide_eq_false (by omega)
          have en : IntKind.i64.wrap (-(r : Int)) = -(r : Int) := IntWalk.i64_in _ ⟨by omega, by omega⟩
          go_wp2
          go_loopw [3, 6] (fun v i wr => ∃ k : Nat, k ≤ 2 * r ∧ i = .int .i64 ((r : Int) - 1 - (k : Int)) ∧ Hid (wr.ownsRow w.heap.size 35 2 v ((2 * r + 2 * r) + k) (twoS.flat (side1 r (2 * r) ++ side2 r (2 * r) ++ side3 r k))) ∧ Hid (Below w.heap.size w wr)) (fun _ i _ => (intOf i + (r : Int) + 1).toNat)
          case atStart => exact ⟨0, Nat.zero_le _, by go_num, by unfold Hid side3; rw [List.range_zero, List.map_nil, List.append_nil]; exact own_len HO.out (by omega), HB.out⟩
          case round =>
            clear HO HB
            obtain ⟨k, hk, rfl, HO, HB⟩ := hrel
            by_cases hlt : k < 2 * r
            · have HN := Lib.hid (side3_next r k)
              obtain ⟨A', c', rfl, -⟩ := ownr_slice HO.out
              have HDO := Lib.hid (ownr_alloc HO.out (.cells #[.int .i64 (-(r : Int)), .int .i64 ((r : Int) - 1 - (k : Int))] 35))
              have HNEW := Lib.hid (new_two wr (-(r : Int), (r : Int) - 1 - (k : Int)) 35)
              have hbs := HB.out.size
              have ew : IntKind.i64.wrap ((r : Int) - 1 - (k : Int)) = (r : Int) - 1 - (k : Int) := IntWalk.i64_in _ ⟨by omega, by omega⟩
              have en : IntKind.i64.wrap (-(r : Int)) = -(r : Int) := IntWalk.i64_in _ ⟨by omega, by omega⟩
              have e1 : decide (-(r : Int) ≤ (r : Int) - 1 - (k : Int)) = true := decide_eq_true (by omega)
              go_wp2_with (at_builtin; go_loud (refine push_rec twoS rfl (.tmp 47) (.tmp 52) 30 rfl w.heap.size 35 i0 (.agg #[.int .i64 0, .int .i64 0]) 16 Try.underlying30 hi hz0 rfl hz1 hz2 _ ((2 * r + 2 * r) + k) (side1 r (2 * r) ++ side2 r (2 * r) ++ side3 r k) rfl HDO.out ⟨wr.heap.size, 0, none⟩ (-(r : Int), (r : Int) - 1 - (k : Int)) rfl HNEW.out (by omega) (by omega) (by simp; omega) ?_); intro v2 w2 hown2 _ hb2; have HO2 := Lib.hid hown2; have HB2 := Lib.hid ((HB.out.alloc HB.out.size _).trans hb2); clear hown2 hb2)
              go_wp2
              go_roundw
              case rel =>
                have HOW : w2.ownsRow w.heap.size 35 2 v2 ((2 * r + 2 * r) + (k + 1)) (twoS.flat (side1 r (2 * r) ++ side2 r (2 * r) ++ side3 r (k + 1))) := by
                  rw [HN.out, ← List.append_assoc]
                  exact HO2.out
                first | exact ⟨k + 1, by omega, by go_num, HOW, HB2.out⟩ | exact ⟨k + 1, by omega, by push_cast; omega, by simpa [List.append_assoc] using HOW⟩ | exact ⟨k + 1, by omega, by push_cast; omega, by unfold Hid; simpa [List.append_assoc] using HOW⟩
              case measure => simp [intOf]; omega
            · have hkn : k = 2 * r := by omega
              subst hkn
              have e1 : decide (-(r : Int) ≤ (r : Int) - 1 - ((2 * r : Nat) : Int)) = false := decide_eq_false (by omega)
              have en : IntKind.i64.wrap (-(r : Int)) = -(r : Int) := IntWalk.i64_in _ ⟨by omega, by omega⟩
              go_wp2
              go_loopw [3, 7] (fun v i wr => ∃ k : Nat, k ≤ 2 * r ∧ i = .int .i64 (1 - (r : Int) + (k : Int)) ∧ Hid (wr.ownsRow w.heap.size 35 2 v ((2 * r + 2 * r + 2 * r) + k) (twoS.flat (side1 r (2 * r) ++ side2 r (2 * r) ++ side3 r (2 * r) ++ side4 r k))) ∧ Hid (Below w.heap.size w wr)) (fun _ i _ => ((r : Int) + 1 - intOf i).toNat)
              case atStart => exact ⟨0, Nat.zero_le _, by go_num, by unfold Hid side4; rw [List.range_zero, List.map_nil, List.append_nil]; exact own_len HO.out (by omega), HB.out⟩
              case round =>
                clear HO HB
                obtain ⟨k, hk, rfl, HO, HB⟩ := hrel
                by_cases hlt : k < 2 * r
                · have HN := Lib.hid (side4_next r k)
                  obtain ⟨A', c', rfl, -⟩ := ownr_slice HO.out
                  have HDO := Lib.hid (ownr_alloc HO.out (.cells #[.int .i64 (1 - (r : Int) + (k : Int)), .int .i64 (-(r : Int))] 35))
                  have HNEW := Lib.hid (new_two wr (1 - (r : Int) + (k : Int), -(r : Int)) 35)
                  have hbs := HB.out.size
                  have ew : IntKind.i64.wrap (1 - (r : Int) + (k : Int)) = 1 - (r : Int) + (k : Int) := IntWalk.i64_in _ ⟨by omega, by omega⟩
                  have en : IntKind.i64.wrap (-(r : Int)) = -(r : Int) := IntWalk.i64_in _ ⟨by omega, by omega⟩
                  have e1 : decide (1 - (r : Int) + (k : Int) ≤ (r : Int)) = true := decide_eq_true (by omega)
                  go_wp2_with (at_builtin; go_loud (refine push_rec twoS rfl (.tmp 61) (.tmp 66) 30 rfl w.heap.size 35 i0 (.agg #[.int .i64 0, .int .i64 0]) 16 Try.underlying30 hi hz0 rfl hz1 hz2 _ ((2 * r + 2 * r + 2 * r) + k) (side1 r (2 * r) ++ side2 r (2 * r) ++ side3 r (2 * r) ++ side4 r k) rfl HDO.out ⟨wr.heap.size, 0, none⟩ (1 - (r : Int) + (k : Int), -(r : Int)) rfl HNEW.out (by omega) (by omega) (by simp; omega) ?_); intro v2 w2 hown2 _ hb2; have HO2 := Lib.hid hown2; have HB2 := Lib.hid ((HB.out.alloc HB.out.size _).trans hb2); clear hown2 hb2)
                  go_wp2
                  go_roundw
                  case rel =>
                    have HOW : w2.ownsRow w.heap.size 35 2 v2 ((2 * r + 2 * r + 2 * r) + (k + 1)) (twoS.flat (side1 r (2 * r) ++ side2 r (2 * r) ++ side3 r (2 * r) ++ side4 r (k + 1))) := by
                      rw [HN.out, ← List.append_assoc]
                      exact HO2.out
                    first | exact ⟨k + 1, by omega, by go_num, HOW, HB2.out⟩ | exact ⟨k + 1, by omega, by push_cast; omega, by simpa [List.append_assoc] using HOW⟩ | exact ⟨k + 1, by omega, by push_cast; omega, by unfold Hid; simpa [List.append_assoc] using HOW⟩
                  case measure => simp [intOf]; omega
                · have hkn : k = 2 * r := by omega
                  subst hkn
                  have e1 : decide (1 - (r : Int) + ((2 * r : Nat) : Int) ≤ (r : Int)) = false := decide_eq_false (by omega)
                  have en : IntKind.i64.wrap (-(r : Int)) = -(r : Int) := IntWalk.i64_in _ ⟨by omega, by omega⟩
                  go_wp2
                  go_ret
                  refine ⟨_, rfl, TwTo.of_own (e := 35) (n := 2 * r + 2 * r + 2 * r + 2 * r) ?_ HB.out⟩
                  rw [HRS.out]
                  have := HO.out
                  simpa [List.append_assoc] using this
end Go.Proofs.Ytngjgdikooaknaa.Ge
