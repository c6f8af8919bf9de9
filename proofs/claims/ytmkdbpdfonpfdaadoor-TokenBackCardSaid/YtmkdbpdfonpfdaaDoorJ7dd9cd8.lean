/- Lemmas that the proof stands on, in build order: CrcW CrcR FrmW SameA FrmP StepC TokI Res FrmT FrmU FrmV TokO. -/
import Derived.Test.YtmkdbpdfonpfdaaDoorProg
import Derived.WalkKit
import Derived.KernelRfl
import Derived.WalkMore
import Derived.BigQuiet
import Derived.RegionTactic
import Derived.Laws.Rows
import Derived.Deep.QuietTactic
import Derived.Deep.RegionHeld3
import Derived.ScopeJumps
import Derived.Deep.DrawnRows
import Derived.Test.YtmkdbpdfonpfdaaDoorJ127b64a
import Derived.Test.YtmkdbpdfonpfdaaDoorJ30798c8
import Derived.Test.YtmkdbpdfonpfdaaDoorJ48595ad
import Derived.Test.YtmkdbpdfonpfdaaDoorJ57ad6f8
import Derived.Test.YtmkdbpdfonpfdaaDoorJ6ebf1f3
/- What crc.More and crc.Sum, crc.Bytes, and the reference's Sum and Bytes return, as contracts over the program. -/
namespace Go.Proofs.YtmkdbpdfonpfdaaDoor.Crc
open Go.RowKit

theorem cells_get {j : Nat} (hj : j < 16) : (cells 16)[j]? = some (.int .u32 ((steps 4 j : Nat) : Int)) := by simp [cells, tab, hj]

theorem u32_in {x : Int} (h1 : 0 ≤ x) (h2 : x < 4294967296) : IntKind.u32.wrap x = x := by rw [IntKind.wrap_u32']; omega

set_option maxHeartbeats 1000000 in
set_option maxRecDepth 100000 in
theorem more_any (s : Nat) (hs : s < 4294967296) (A : Option Addr) (n c B : Nat) (xs : List Int) (w : World) (hr : Row .u8 w B A n xs) (hx : Bytes xs) (hB : B ≤ w.heap.size) (hn : n ≤ 4398046511104) :
    Calls Tryd.prog 94 #[.int .u32 (s : Int), .slice A n c] w fun e w' => e = .returned (.int .u32 ((more s xs : Nat) : Int)) ∧ Below w.heap.size w w' := by
  have HR := Lib.hid hr
  have HX := Lib.hid hx
  have hlen := hr.len
  have hnot := not_u32 hs
  clear hr hx
  go_enter Tryd.func94, Tryd.ntmps94
  go_wp2_with fail
  refine (table_any _).mono ?_
  rintro e w1 ⟨rfl, hb1⟩
  have HB1 := Lib.hid hb1
  clear hb1
  rw [cells_full]
  go_wp2
  rw [← cells_full]
  generalize hw2 : w1.alloc (Obj.cells (cells 16) 136) = w2
  have HC : Hid (∀ j, j < 16 → w2.cell? ⟨w1.heap.size, j, none⟩ = some (.int .u32 ((steps 4 j : Nat) : Int))) := by
    intro j hj
    rw [← hw2]
    simp [cells_get hj]
  have HB2 : Hid (Below w.heap.size w w2) := by rw [← hw2]; exact HB1.out.alloc HB1.out.size _
  have HR2 : Hid (Row .u8 w2 B A n xs) := Row.keep HR.out (fun p hp => HB2.out.cell (by omega))
  clear hw2 HR
  have hs' := inv_lt s
  go_loop [14, 6] (fun a b => ∃ i r : Nat, i ≤ n ∧ a = .int .i64 (i : Int) ∧ b = .int .u32 (r : Int) ∧ Hid (r < 4294967296 ∧ crc (inv s) xs = crc r (xs.drop i))) (fun a _ => n - (intOf a).toNat)
  case atStart => exact ⟨0, inv s, Nat.zero_le _, rfl, rfl, by unfold Hid; exact ⟨inv_lt s, by simp⟩⟩
  case round =>
    obtain ⟨i, r, hi, rfl, rfl, HI⟩ := hrel
    by_cases hlt : i < n
    · obtain ⟨b, o, rfl, _, hc1⟩ := HR2.out.cell_at hlt
      have hr := HI.out.1
      have h8 := HX.out.getD (i := i) (by omega)
      have HD := Lib.hid (crc_drop (xs := xs) (i := i) (by omega) r)
      have HU := Lib.hid (upd_eq r (xs.getD i 0))
      have HL := Lib.hid (upd_lt hr h8.1 h8.2)
      obtain ⟨x, hx⟩ : ∃ x : Nat, xs.getD i 0 = (x : Int) := ⟨(xs.getD i 0).toNat, by omega⟩
      rw [hx] at hc1 h8 HU HD HL
      clear hx
      have h8' : x < 256 := by omega
      have hwx := u32_in (x := (x : Int)) (by omega) (by omega)
      have hx1 := u32_xor_nat r x hr (by omega)
      have hl1 : r ^^^ x < 4294967296 := Nat.xor_lt_two_pow (n := 32) hr (by omega)
      have HU' : Hid (upd r (x : Int) = steps 4 (steps 4 (r ^^^ x))) := HU.out
      clear HU
      generalize r ^^^ x = r1 at *
      have hc2 := HC.out (r1 % 16) (by omega)
      have hl2 := steps_lt hl1 4
      have hx2 : bits .xor .u32 ((r1 : Int) / 16) ((steps 4 (r1 % 16) : Nat) : Int) = ((steps 4 r1 : Nat) : Int) := by
        rw [← steps4 r1]
        exact u32_xor_nat (r1 / 16) (steps 4 (r1 % 16)) (by omega) (steps_lt (by omega) 4)
      have HT1 : Hid (steps 4 (r1 % 16) < 4294967296) := steps_lt (by omega) 4
      generalize steps 4 r1 = r2 at *
      generalize steps 4 (r1 % 16) = t1 at *
      have hc3 := HC.out (r2 % 16) (by omega)
      have hl3 := steps_lt hl2 4
      have hx3 : bits .xor .u32 ((r2 : Int) / 16) ((steps 4 (r2 % 16) : Nat) : Int) = ((steps 4 r2 : Nat) : Int) := by
        rw [← steps4 r2]
        exact u32_xor_nat (r2 / 16) (steps 4 (r2 % 16)) (by omega) (steps_lt (by omega) 4)
      generalize steps 4 r2 = r3 at *
      generalize steps 4 (r2 % 16) = t2 at *
      go_wp2
      go_round
      case rel => exact ⟨i + 1, r3, by omega, by go_num, rfl, by unfold Hid; exact ⟨hl3, by rw [HI.out.2, HD.out, HU'.out]⟩⟩
      case measure => simp [intOf]; omega
    · obtain rfl : i = n := by omega
      have hdr : xs.drop xs.length = [] := List.drop_eq_nil_of_le (Nat.le_refl _)
      have hr := HI.out.1
      have hnot2 := not_u32 hr
      have HF : Hid (more s xs = inv r) := by unfold Hid more; rw [HI.out.2, ← hlen, hdr]; rfl
      clear hdr
      go_wp2
      go_ret
      exact ⟨by rw [HF.out]; rfl, HB2.out⟩
end Go.Proofs.YtmkdbpdfonpfdaaDoor.Crc

/- What crc.Sum and crc.Bytes, and the reference's Sum and Bytes return, as contracts over the program. -/
namespace Go.Proofs.YtmkdbpdfonpfdaaDoor.Crc
open Go.RowKit

theorem info_u8 : (Tryd.prog.info? 5).map (fun i => (i.zero, i.size, i.bytes)) = some (some (.int .u8 0), 1, 1) := by kernel_rfl

set_option maxHeartbeats 400000 in
set_option maxRecDepth 100000 in
theorem sum_any (A : Option Addr) (n c B : Nat) (xs : List Int) (w : World) (hr : Row .u8 w B A n xs) (hx : Bytes xs) (hB : B ≤ w.heap.size) (hn : n ≤ 4398046511104) :
    Calls Tryd.prog 89 #[.slice A n c] w fun e w' => e = .returned (.int .u32 ((sum xs : Nat) : Int)) ∧ Below w.heap.size w w' := by
  have HR := Lib.hid hr
  have HX := Lib.hid hx
  clear hr hx
  go_enter Tryd.func89, Tryd.ntmps89
  go_wp2_with fail
  refine (more_any 0 (by omega) A n c B xs _ HR.out HX.out hB hn).mono ?_
  rintro e w1 ⟨rfl, hb1⟩
  have HB1 := Lib.hid hb1
  clear hb1
  rw [sum_more]
  go_wp2
  go_ret
  exact ⟨rfl, HB1.out⟩

set_option maxHeartbeats 1000000 in
set_option maxRecDepth 100000 in
theorem refsum_any (A : Option Addr) (n c B : Nat) (xs : List Int) (w : World) (hr : Row .u8 w B A n xs) (hx : Bytes xs) (hn : n ≤ 4398046511104) :
    Calls Tryd.prog 58 #[.slice A n c] w fun e w' => e = .returned (.int .u32 ((sum xs : Nat) : Int)) ∧ w' = w := by
  have HR := Lib.hid hr
  have HX := Lib.hid hx
  have hlen := hr.len
  clear hr hx
  go_enter Tryd.func58, Tryd.ntmps58
  go_wp2
  go_loop [4, 3] (fun a b => ∃ i r : Nat, i ≤ n ∧ a = .int .i64 (i : Int) ∧ b = .int .u32 (r : Int) ∧ Hid (r < 4294967296 ∧ crc 4294967295 xs = crc r (xs.drop i))) (fun a _ => n - (intOf a).toNat)
  case atStart => exact ⟨0, 4294967295, Nat.zero_le _, rfl, rfl, by unfold Hid; exact ⟨by omega, by simp⟩⟩
  case round =>
    obtain ⟨i, r, hi, rfl, rfl, HI⟩ := hrel
    by_cases hlt : i < n
    · obtain ⟨b, o, rfl, _, hc1⟩ := HR.out.cell_at hlt
      have hr := HI.out.1
      have h8 := HX.out.getD (i := i) (by omega)
      have HD := Lib.hid (crc_drop (xs := xs) (i := i) (by omega) r)
      have HU := Lib.hid (upd_eq r (xs.getD i 0))
      have HL := Lib.hid (upd_lt hr h8.1 h8.2)
      obtain ⟨x, hx⟩ : ∃ x : Nat, xs.getD i 0 = (x : Int) := ⟨(xs.getD i 0).toNat, by omega⟩
      rw [hx] at hc1 h8 HU HD HL
      clear hx
      have h8' : x < 256 := by omega
      clear h8
      go_wp2
      go_loop [6, 5, 3] (fun a b d => ∃ k y q : Nat, k ≤ 8 ∧ a = .int .i64 (k : Int) ∧ b = .int .i64 (y : Int) ∧ d = .int .u32 (q : Int) ∧ Hid (y = x / 2 ^ k) ∧ Hid (q < 4294967296 ∧ q ^^^ y = steps k (r ^^^ x))) (fun a _ _ => 8 - (intOf a).toNat)
      case atStart => exact ⟨0, x, r, Nat.zero_le _, rfl, by go_num, rfl, by unfold Hid; simp, by unfold Hid; exact ⟨hr, rfl⟩⟩
      case round =>
        obtain ⟨k, y, q, hk, rfl, rfl, rfl, HY, HQ⟩ := hrel
        have hy : y < 256 := by rw [HY.out]; exact Nat.lt_of_le_of_lt (Nat.div_le_self _ _) h8'
        by_cases hlt8 : k < 8
        · have hq := HQ.out.1
          have HS : Hid (rstep q y ^^^ (y / 2) = steps (k + 1) (r ^^^ x)) := by unfold Hid; rw [step_rstep, HQ.out.2]; rfl
          have HY2 : Hid (y / 2 = x / 2 ^ (k + 1)) := by unfold Hid; rw [HY.out, Nat.div_div_eq_div_mul, ← Nat.pow_succ]
          have hxor : bits .xor .u32 ((q : Int) / 2) 3988292384 = ((q / 2 ^^^ 3988292384 : Nat) : Int) := u32_xor_nat (q / 2) 3988292384 (by omega) (by omega)
          have hwy := u32_in (x := (y : Int) % 2) (by omega) (by omega)
          by_cases hbit : q % 2 = y % 2
          · have hb : ((q : Int) % 2 == (y : Int) % 2) = true := by simp; omega
            have hb' : ((q : Int) % 2 != (y : Int) % 2) = false := by simp; omega
            go_wp2
            go_round
            case rel => exact ⟨k + 1, y / 2, rstep q y, by omega, by go_num, by go_num, by unfold rstep; rw [if_pos hbit]; go_num, HY2, by unfold Hid; exact ⟨rstep_lt hq, HS.out⟩⟩
            case measure => simp [intOf]; omega
          · have hb : ((q : Int) % 2 == (y : Int) % 2) = false := by simp; omega
            have hb' : ((q : Int) % 2 != (y : Int) % 2) = true := by simp; omega
            go_wp2
            go_round
            case rel => exact ⟨k + 1, y / 2, rstep q y, by omega, by go_num, by go_num, by unfold rstep; rw [if_neg hbit], HY2, by unfold Hid; exact ⟨rstep_lt hq, HS.out⟩⟩
            case measure => simp [intOf]; omega
        · obtain rfl : k = 8 := by omega
          have hy0 : y = 0 := by rw [HY.out]; exact Nat.div_eq_of_lt h8'
          subst hy0
          have HE : Hid (q = upd r (x : Int)) := by
            have := HQ.out.2
            rw [Nat.xor_zero] at this
            unfold Hid
            rw [this, HU.out]
            rfl
          go_wp2
          exact ⟨⟨i + 1, q, by omega, by go_num, rfl, by unfold Hid; exact ⟨HQ.out.1, by rw [HI.out.2, HD.out, HE.out]⟩⟩, by simp [intOf]; omega⟩
    · obtain rfl : i = n := by omega
      have hdr : xs.drop xs.length = [] := List.drop_eq_nil_of_le (Nat.le_refl _)
      have hr := HI.out.1
      have HF : Hid (sum xs = inv r) := by unfold Hid sum; rw [HI.out.2, ← hlen, hdr]; rfl
      clear hdr
      have hsub : IntKind.u32.wrap (4294967295 - (r : Int)) = 4294967295 - (r : Int) := u32_in (by omega) (by omega)
      go_wp2
      go_ret
      exact ⟨ret_int (by rw [HF.out]; unfold inv; omega), rfl⟩

def BytesTo (n : Nat) (w : World) (e : Ending) (w' : World) : Prop :=
  ∃ v, e = .returned v ∧ w'.ownsRow w.heap.size 5 1 v 4 ((byts 4 n).map (Value.int .u8)) ∧ Below w.heap.size w w'

set_option maxHeartbeats 400000 in
set_option maxRecDepth 100000 in
theorem bytes_any (n : Nat) (w : World) : Calls Tryd.prog 88 #[.int .u32 (n : Int)] w (BytesTo n w) := by
  have h0 : IntKind.u8.wrap (n : Int) = ((n % 256 : Nat) : Int) := by rw [IntKind.wrap_u8']; omega
  have h1 : IntKind.u8.wrap ((n : Int) / 256) = ((n / 256 % 256 : Nat) : Int) := by rw [IntKind.wrap_u8']; omega
  have h2 : IntKind.u8.wrap ((n : Int) / 65536) = ((n / 256 / 256 % 256 : Nat) : Int) := by rw [IntKind.wrap_u8']; omega
  have h3 : IntKind.u8.wrap ((n : Int) / 16777216) = ((n / 256 / 256 / 256 % 256 : Nat) : Int) := by rw [IntKind.wrap_u8']; omega
  go_enter Tryd.func88, Tryd.ntmps88
  go_wp2
  go_ret
  refine ⟨_, rfl, World.ownsRow_lit w _ 4 (Nat.le_refl _) (by unfold maxLen; omega) rfl, (Below.refl _ _).alloc (Nat.le_refl _) _⟩

set_option maxHeartbeats 800000 in
set_option maxRecDepth 100000 in
theorem refbytes_any (n : Nat) (hn : n < 4294967296) (w : World) : Calls Tryd.prog 57 #[.int .u32 (n : Int)] w (BytesTo n w) := by
  obtain ⟨i0, hi, hz0, hz1, hz2⟩ := info_parts info_u8
  go_enter Tryd.func57, Tryd.ntmps57
  go_wp2
  go_loopw [4, 0, 3] (fun a b v wr => ∃ (i m : Nat) (xs : List Int), i ≤ 4 ∧ m ≤ n ∧ a = .int .i64 (i : Int) ∧ b = .int .u32 (m : Int) ∧ Hid (byts 4 n = xs ++ byts (4 - i) m) ∧ Hid (xs.length = i) ∧ wr.ownsRow w.heap.size 5 1 v i (xs.map (Value.int .u8)) ∧ Below w.heap.size w wr)
    (fun a _ _ _ => 4 - (intOf a).toNat)
  case atStart => exact ⟨0, n, [], Nat.zero_le _, Nat.le_refl _, rfl, rfl, rfl, rfl, World.ownsRow_nil _ _ _ _, Below.refl _ _⟩
  case round =>
    obtain ⟨i, m, xs, hi4, hm, rfl, rfl, HP, HL, hown, hbl⟩ := hrel
    have hsz := hbl.size
    by_cases hlt : i < 4
    · have hw8 : IntKind.u8.wrap ((m : Int) % 256) = ((m % 256 : Nat) : Int) := by rw [IntKind.wrap_u8']; omega
      have HP2 : Hid (byts 4 n = (xs ++ [((m % 256 : Nat) : Int)]) ++ byts (4 - (i + 1)) (m / 256)) := by
        unfold Hid
        rw [HP.out, show 4 - i = (4 - (i + 1)) + 1 by omega]
        simp [byts]
      go_wp2_with (at_builtin; refine push_own rfl (.tmp 9) (.tmp 13) 29 rfl w.heap.size 5 i0 .u8 1 Tryd.underlying29 hi hz0 hz1 hz2 _ i xs ((m % 256 : Nat) : Int) rfl hown rfl (by omega) (by omega) hsz ?_; intro v1 w1 hown1 hb1)
      go_roundw
      case rel => exact ⟨i + 1, m / 256, xs ++ [((m % 256 : Nat) : Int)], by omega, by omega, by go_num, by go_num, HP2, by unfold Hid; simp [HL.out], hown1, hbl.trans hb1⟩
      case measure => simp [intOf]; omega
    · obtain rfl : i = 4 := by omega
      have HF : Hid (byts 4 n = xs) := by unfold Hid; rw [HP.out]; simp [byts]
      go_wp2
      go_ret
      exact ⟨_, rfl, by rw [HF.out]; exact hown, hbl⟩
end Go.Proofs.YtmkdbpdfonpfdaaDoor.Crc

/- What layer 4's (frame's) Put and its reference's return, as contracts over the program. -/
namespace Go.Proofs.YtmkdbpdfonpfdaaDoor.Frm
open Go.RowKit Var Crc Slc

theorem own_mono {w : World} {base base' n : Nat} {e : TypeId} {v : Value} {xs : List Value} (h : w.ownsRow base e 1 v n xs) (hb : base' ≤ base) : w.ownsRow base' e 1 v n xs := by
  refine ⟨h.1, ?_⟩
  rcases h.2 with h0 | ⟨g, cap, cur, h1, h2, rest⟩
  · exact .inl h0
  · exact .inr ⟨g, cap, cur, h1, Nat.le_trans hb h2, rest⟩

set_option maxHeartbeats 400000 in
set_option maxRecDepth 100000 in
theorem fsum_any (A : Option Addr) (n c B : Nat) (xs : List Int) (w : World) (hr : Row .u8 w B A n xs) (hx : Byt xs) (hB : B ≤ w.heap.size) (hn : n ≤ 4398046511104) :
    Calls Tryd.prog 73 #[.slice A n c] w fun e w' =>
      ∃ v, e = .returned v ∧ w'.ownsRow w.heap.size 5 1 v 4 ((byts 4 (sum xs)).map (Value.int .u8)) ∧ Below w.heap.size w w' := by
  have HR := Lib.hid hr
  have HX := Lib.hid hx
  clear hr hx
  go_enter Tryd.func73, Tryd.ntmps73
  go_wp2_with fail
  refine (Crc.sum_any A n c B xs _ HR.out HX.out.crc hB hn).mono ?_
  rintro e1 w1 ⟨rfl, hb1⟩
  go_wp2_with fail
  refine (Crc.bytes_any (sum xs) _).mono ?_
  rintro e2 w2 ⟨v2, rfl, hown2, hb2⟩
  go_wp2
  go_ret
  exact ⟨_, rfl, own_mono hown2 hb1.size, hb1.trans (hb2.mono hb1.size)⟩

/-- A frame, in a row of its own. -/
def Puts (k : Int) (xs : List Int) (w : World) (v : Value) (w' : World) : Prop :=
  w'.ownsRow w.heap.size 5 1 v (frame k xs).length ((frame k xs).map (Value.int .u8)) ∧ Below w.heap.size w w'

set_option maxHeartbeats 800000 in
set_option maxRecDepth 100000 in
theorem put_any (k : Int) (hk : 0 ≤ k ∧ k ≤ 255) (A : Option Addr) (n c : Nat) (xs : List Int) (w : World) (hr : Row .u8 w w.heap.size A n xs) (hnil : A = none → c = 0) (hx : Byt xs) (hn : n ≤ 1048576) :
    Calls Tryd.prog 54 #[.int .u8 k, .slice A n c] w fun e w' => ∃ v, e = .returned (.tuple #[v, .int .i64 0]) ∧ Puts k xs w v w' := by
  obtain ⟨i0, hi, hz0, hz1, hz2⟩ := info_parts Slc.info_u8
  have HR := Lib.hid hr
  have HX := Lib.hid hx
  have HN := Lib.hid hnil
  have hlen := hr.len
  clear hr hx hnil
  have hL := put_len10 (n := n) (by omega)
  go_enter Tryd.func54, Tryd.ntmps54
  go_wp2_with fail
  have HO1 := Lib.hid (World.ownsRow_lit (e := 5) (size := 1) (base := w.heap.size) w #[.int .u8 199, .int .u8 k] 2 (Nat.le_refl _) (by unfold maxLen; omega) rfl)
  have HB1 := Lib.hid ((Below.refl w.heap.size w).alloc (Nat.le_refl _) (.cells #[.int .u8 199, .int .u8 k] 5))
  generalize hw1 : w.alloc (.cells #[.int .u8 199, .int .u8 k] 5) = w1 at *
  have hs1 : w.heap.size + 1 = w1.heap.size := by rw [← hw1]; simp
  clear hw1
  refine (Var.put_any n (by omega) _).mono ?_
  rintro e2 w2 ⟨v2, rfl, hown2, hb2⟩
  obtain ⟨A2, c2, rfl, -, hnil2⟩ := own_slice hown2
  have HO2 := Lib.hid hown2
  have HB2 := Lib.hid hb2
  have HN2 := Lib.hid hnil2
  have hs2 := hb2.size
  clear hown2 hb2 hnil2
  go_wp2_with fail
  have HB3 := Lib.hid ((Below.refl w2.heap.size w2).alloc (Nat.le_refl _) (.cells #[.slice (some ⟨w.heap.size, 0, none⟩) 2 2, .slice A2 (put n).length c2, .slice A n c] 29))
  have h0 : ∀ j (h : j < [Part.mk (some ⟨w.heap.size, 0, none⟩) 2 2 [199, k], Part.mk A2 (put n).length c2 (put n), Part.mk A n c xs].length), (w2.alloc (.cells #[.slice (some ⟨w.heap.size, 0, none⟩) 2 2, .slice A2 (put n).length c2, .slice A n c] 29)).cell? ⟨w2.heap.size, j, none⟩ = some ([Part.mk (some ⟨w.heap.size, 0, none⟩) 2 2 [199, k], Part.mk A2 (put n).length c2 (put n), Part.mk A n c xs][j]).v := by
    intro j hj
    match j, hj with
    | 0, _ => simp [Part.v]
    | 1, _ => simp [Part.v]
    | 2, _ => simp [Part.v]
  have H0 := Lib.hid h0
  clear h0
  generalize hw3 : w2.alloc (.cells #[.slice (some ⟨w.heap.size, 0, none⟩) 2 2, .slice A2 (put n).length c2, .slice A n c] 29) = w3 at *
  have hs3 : w2.heap.size + 1 = w3.heap.size := by rw [← hw3]; simp
  clear hw3
  have HL : Hid (∀ p ∈ [Part.mk (some ⟨w.heap.size, 0, none⟩) 2 2 [199, k], Part.mk A2 (put n).length c2 (put n), Part.mk A n c xs], p.Right w3 w3.heap.size) := by
    intro p hp
    simp only [List.mem_cons, List.not_mem_nil, or_false] at hp
    rcases hp with rfl | rfl | rfl
    · exact ⟨((((Row.of_own (xs := [199, k]) HO1.out).below HB2.out).below (HB3.out.mono (by omega))).more (by omega)), fun h => by cases h⟩
    · exact ⟨(((Row.of_own HO2.out).below HB3.out).more (by omega)), HN2.out⟩
    · exact ⟨((((HR.out.below HB1.out).below (HB2.out.mono (by omega))).below (HB3.out.mono (by omega))).more (by omega)), HN.out⟩
  refine (concat_any [Part.mk (some ⟨w.heap.size, 0, none⟩) 2 2 [199, k], Part.mk A2 (put n).length c2 (put n), Part.mk A n c xs] w2.heap.size 3 w3.heap.size w3 H0.out HL.out (Nat.le_refl _) (by omega) (by simp [total]; omega) (by simp)).mono ?_
  rintro e4 w4 ⟨v4, rfl, hown4, hb4⟩
  have hh : whole [Part.mk (some ⟨w.heap.size, 0, none⟩) 2 2 [199, k], Part.mk A2 (put n).length c2 (put n), Part.mk A n c xs] = head k xs := by simp [whole, head, hlen]
  have ht : total [Part.mk (some ⟨w.heap.size, 0, none⟩) 2 2 [199, k], Part.mk A2 (put n).length c2 (put n), Part.mk A n c xs] = (head k xs).length := by rw [head_len, hlen]; simp [total]; omega
  rw [hh, ht] at hown4
  clear hh ht
  obtain ⟨A4, c4, rfl, -, -⟩ := own_slice hown4
  have HO4 := Lib.hid hown4
  have HB4 := Lib.hid hb4
  have hs4 := hb4.size
  clear hown4 hb4 H0 HL
  have HHB : Hid (Byt (head k xs)) := head_byt hk HX.out
  have hhl : (head k xs).length ≤ 2000000 := by rw [head_len, hlen]; omega
  have HF : Hid (frame k xs = head k xs ++ byts 4 (sum (head k xs))) := rfl
  have HFL : Hid ((frame k xs).length = (head k xs).length + 4) := by unfold Hid; rw [frame_len, head_len]
  generalize head k xs = hd at *
  go_wp2_with fail
  refine (fsum_any A4 hd.length c4 _ hd _ (Row.of_own HO4.out) HHB.out (Nat.le_refl _) (by omega)).mono ?_
  rintro e5 w5 ⟨v5, rfl, hown5, hb5⟩
  obtain ⟨A5, c5, rfl, -, hnil5⟩ := own_slice hown5
  have HO4' := Lib.hid (own_below HO4.out hb5)
  have HO5 := Lib.hid hown5
  have HB5 := Lib.hid hb5
  have HN5 := Lib.hid hnil5
  have hs5 := hb5.size
  clear hown5 hb5 hnil5
  go_wp2_with (at_builtin; refine cat_own rfl (.tmp 19) (.tmp 21) 29 rfl w3.heap.size 5 i0 .u8 1 Tryd.underlying29 hi hz0 hz1 hz2 _ hd.length hd rfl HO4'.out _ A5 4 c5 (byts 4 (sum hd)) rfl HN5.out (Row.of_own HO5.out) (by omega) (by omega) (by omega) ?_; intro v6 w6 hown6 hb6; have HO6 := Lib.hid hown6; have HB6 := Lib.hid hb6; clear hown6 hb6)
  go_ret2
  refine ⟨v6, rfl, ?_, ?_⟩
  · rw [HFL.out, HF.out]; exact own_mono HO6.out (by omega)
  · exact HB1.out.trans ((HB2.out.mono (by omega)).trans ((HB3.out.mono (by omega)).trans ((HB4.out.mono (by omega)).trans ((HB5.out.mono (by omega)).trans (HB6.out.mono (by omega))))))

set_option maxHeartbeats 400000 in
set_option maxRecDepth 100000 in
theorem put_much (k : Int) (A : Option Addr) (n c : Nat) (w : World) (hn : 1048576 < n) :
    Calls Tryd.prog 54 #[.int .u8 k, .slice A n c] w fun e w' => e = .returned (.tuple #[.slice none 0 0, .int .i64 3]) ∧ w = w' := by
  go_enter Tryd.func54, Tryd.ntmps54
  go_wp2
  go_ret2
  exact ⟨rfl, rfl⟩
end Go.Proofs.YtmkdbpdfonpfdaaDoor.Frm

/- The reference's Same of any two slices of bytes: a contract over the program. -/
namespace Go.Proofs.YtmkdbpdfonpfdaaDoor
open Go.RowKit

set_option maxHeartbeats 800000 in
set_option maxRecDepth 100000 in
/-- Any two slices. -/
theorem same_any (A A' : Option Addr) (n c n' c' B B' : Nat) (xs ys : List Int) (w : World) (hn : n ≤ 4398046511104) (hn' : n' ≤ 4398046511104) (h1 : Row .u8 w B A n xs) (h2 : Row .u8 w B' A' n' ys) :
    Calls Tryd.prog 11 #[.slice A n c, .slice A' n' c'] w fun e w' => e = .returned (.bool (decide (xs = ys))) ∧ ∃ q, w' = w.drewN q := by
  have H1 := Lib.hid h1
  have H2 := Lib.hid h2
  have l1 := h1.len
  have l2 := h2.len
  clear h1 h2
  by_cases hne : n = n'
  · subst hne
    go_enter Tryd.func11, Tryd.ntmps11
    go_wp2
    go_loopw [5] (fun i wr => ∃ k q : Nat, k ≤ n ∧ i = .int .i64 (k : Int) ∧ Hid (xs.take k = ys.take k) ∧ Hid (wr = w.drewN q)) (fun i _ => n - (intOf i).toNat)
    case atStart => exact ⟨0, 0, Nat.zero_le _, rfl, rfl, rfl⟩
    case round =>
      obtain ⟨k, q, hk, rfl, HT, hw⟩ := hrel
      obtain rfl := hw.out
      clear hw
      by_cases hlt : k < n
      · obtain ⟨b, o, rfl, _, hc1⟩ := H1.out.cell_at hlt
        obtain ⟨b', o', rfl, _, hc2⟩ := H2.out.cell_at hlt
        have hx : xs.getD k 0 = xs[k]'(by omega) := by simp [List.getD, show k < xs.length by omega]
        have hy : ys.getD k 0 = ys[k]'(by omega) := by simp [List.getD, show k < ys.length by omega]
        by_cases heq : xs.getD k 0 = ys.getD k 0
        · have HT2 : Hid (xs.take (k + 1) = ys.take (k + 1)) := by
            unfold Hid
            rw [List.take_succ_eq_append_getElem (by omega), List.take_succ_eq_append_getElem (by omega), HT.out, ← hx, ← hy, heq]
          rw [← heq] at hc2
          clear hx hy heq
          go_wp2
          go_quiet (fail)
          go_wp2
          go_roundw
          case rel => exact ⟨k + 1, _, by omega, by go_num, HT2, by unfold Hid; rfl⟩
          case measure => simp [intOf]; omega
        · have HNE : Hid (decide (xs = ys) = false) := by
            unfold Hid
            refine decide_eq_false fun h => heq ?_
            rw [h]
          have hnb : (xs.getD k 0 == ys.getD k 0) = false := beq_eq_false_iff_ne.2 heq
          have hnb2 : (xs.getD k 0 != ys.getD k 0) = true := by rw [bne, hnb]; rfl
          generalize xs.getD k 0 = x at *
          generalize ys.getD k 0 = y at *
          clear hx hy heq
          go_wp2
          go_quiet (fail)
          go_wp2
          go_ret
          exact ⟨by rw [HNE.out]; rfl, q + nq, World.drewN_drewN _ _ _⟩
      · have HY : Hid (decide (xs = ys) = true) := by
          unfold Hid
          have h := HT.out
          rw [List.take_of_length_le (by omega), List.take_of_length_le (by omega)] at h
          exact decide_eq_true h
        go_wp2
        go_ret
        exact ⟨by rw [HY.out]; rfl, _, rfl⟩
  · have HNE : Hid (decide (xs = ys) = false) := by
      unfold Hid
      refine decide_eq_false fun h => hne ?_
      rw [← l1, ← l2, h]
    have hb : ((n : Int) == (n' : Int)) = false := beq_eq_false_iff_ne.2 (by omega)
    have hb2 : ((n : Int) != (n' : Int)) = true := by rw [bne, hb]; rfl
    clear hne
    go_enter Tryd.func11, Tryd.ntmps11
    go_wp2
    go_ret
    exact ⟨by rw [HNE.out]; rfl, 0, rfl⟩
end Go.Proofs.YtmkdbpdfonpfdaaDoor

/- What the reference's Put of layer 4 returns, as a contract over the program. -/
namespace Go.Proofs.YtmkdbpdfonpfdaaDoor.Frm
open Go.RowKit Var Crc Slc

set_option maxHeartbeats 800000 in
set_option maxRecDepth 100000 in
theorem refput_any (k : Int) (hk : 0 ≤ k ∧ k ≤ 255) (A : Option Addr) (n c : Nat) (xs : List Int) (w : World) (hr : Row .u8 w w.heap.size A n xs) (hnil : A = none → c = 0) (hx : Byt xs) (hn : n ≤ 1048576) :
    Calls Tryd.prog 30 #[.int .u8 k, .slice A n c] w fun e w' => ∃ v, e = .returned v ∧ Puts k xs w v w' := by
  obtain ⟨i0, hi, hz0, hz1, hz2⟩ := info_parts Slc.info_u8
  have HR := Lib.hid hr
  have HX := Lib.hid hx
  have HN := Lib.hid hnil
  have hlen := hr.len
  clear hr hx hnil
  have hL := put_len10 (n := n) (by omega)
  go_enter Tryd.func30, Tryd.ntmps30
  go_wp2_with fail
  have HO1 := Lib.hid (World.ownsRow_lit (e := 5) (size := 1) (base := w.heap.size) w #[.int .u8 199, .int .u8 k] 2 (Nat.le_refl _) (by unfold maxLen; omega) rfl)
  have HB1 := Lib.hid ((Below.refl w.heap.size w).alloc (Nat.le_refl _) (.cells #[.int .u8 199, .int .u8 k] 5))
  generalize hw1 : w.alloc (.cells #[.int .u8 199, .int .u8 k] 5) = w1 at *
  have hs1 : w.heap.size + 1 = w1.heap.size := by rw [← hw1]; simp
  clear hw1
  refine (Var.refput_any n (by omega) _).mono ?_
  rintro e2 w2 ⟨v2, rfl, hown2, hb2⟩
  obtain ⟨A2, c2, rfl, -, hnil2⟩ := own_slice hown2
  have HO2 := Lib.hid hown2
  have HB2 := Lib.hid hb2
  have HN2 := Lib.hid hnil2
  have HO1' := Lib.hid (own_below HO1.out hb2)
  have hs2 := hb2.size
  clear hown2 hb2 hnil2
  go_wp2_with (at_builtin; first
    | (refine cat_own rfl (.tmp 8) (.tmp 12) 29 rfl w.heap.size 5 i0 .u8 1 Tryd.underlying29 hi hz0 hz1 hz2 _ 2 [199, k] rfl HO1'.out _ A2 (put n).length c2 (put n) rfl HN2.out (Row.of_own HO2.out) (by omega) (by omega) (by omega) ?_; intro v3 w3 hown3 hb3; have HO3 := Lib.hid hown3; have HB3 := Lib.hid hb3; clear hown3 hb3)
    | (refine cat_own rfl (.tmp 14) (.tmp 15) 29 rfl w.heap.size 5 i0 .u8 1 Tryd.underlying29 hi hz0 hz1 hz2 _ (2 + (put n).length) ([199, k] ++ put n) rfl HO3.out w.heap.size A n c xs rfl HN.out (((HR.out.below HB1.out).below (HB2.out.mono (by omega))).below HB3.out) (by omega) (by omega) (by have := HB3.out.size; omega) ?_; intro v4 w4 hown4 hb4; have HO4 := Lib.hid hown4; have HB4 := Lib.hid hb4; clear hown4 hb4))
  have hh : [199, k] ++ put n ++ xs = head k xs := by simp [head, hlen]
  have ht : 2 + (put n).length + n = (head k xs).length := by rw [head_len, hlen]
  rw [hh, ht] at HO4
  clear hh ht
  obtain ⟨A4, c4, rfl, -, -⟩ := own_slice HO4.out
  have hs3 := HB3.out.size
  have hs4 := HB4.out.size
  have HHB : Hid (Byt (head k xs)) := head_byt hk HX.out
  have hhl : (head k xs).length ≤ 2000000 := by rw [head_len, hlen]; omega
  have HF : Hid (frame k xs = head k xs ++ byts 4 (sum (head k xs))) := rfl
  have HFL : Hid ((frame k xs).length = (head k xs).length + 4) := by unfold Hid; rw [frame_len, head_len]
  generalize head k xs = hd at *
  refine (refsum_any A4 hd.length c4 _ hd _ (Row.of_own HO4.out) HHB.out.crc (by omega)).mono ?_
  rintro e5 w5 ⟨rfl, rfl⟩
  go_wp2_with fail
  refine (refbytes_any (sum hd) (sum_lt hd) _).mono ?_
  rintro e6 w6 ⟨v6, rfl, hown6, hb6⟩
  obtain ⟨A6, c6, rfl, -, hnil6⟩ := own_slice hown6
  have HO4' := Lib.hid (own_below HO4.out hb6)
  have HO6 := Lib.hid hown6
  have HB6 := Lib.hid hb6
  have HN6 := Lib.hid hnil6
  have hs6 := hb6.size
  clear hown6 hb6 hnil6
  go_wp2_with (at_builtin; refine cat_own rfl (.tmp 17) (.tmp 20) 29 rfl w.heap.size 5 i0 .u8 1 Tryd.underlying29 hi hz0 hz1 hz2 _ hd.length hd rfl HO4'.out _ A6 4 c6 (byts 4 (sum hd)) rfl HN6.out (Row.of_own HO6.out) (by omega) (by omega) (by omega) ?_; intro v7 w7 hown7 hb7; have HO7 := Lib.hid hown7; have HB7 := Lib.hid hb7; clear hown7 hb7)
  go_ret
  refine ⟨v7, rfl, ?_, ?_⟩
  · rw [HFL.out, HF.out]; exact HO7.out
  · exact HB1.out.trans ((HB2.out.mono (by omega)).trans (HB3.out.trans (HB4.out.trans ((HB6.out.mono (by omega)).trans HB7.out))))
end Go.Proofs.YtmkdbpdfonpfdaaDoor.Frm

/- An append as a step of a region that draws, over any program. -/
namespace Go.Proofs.YtmkdbpdfonpfdaaDoor.StepC
open Go.RowKit

/-- 'append(out, ys...)' as a step of a region that draws: out is nil or one's own, ys reads as a row that is not nil; told with the block in which the row lies behind it. -/
theorem step_cat {P : Program} {ops : Array Oper} {o : Oper} {a : Act} {K : Act → World → Prop} {Q : Exit → Act → World → Prop} {E : Prop} {w : World} (hgd : o.guard = none) (s x : Operand) (t : TypeId)
    (ho : o.op = .call { callee := .builtin .append, args := #[s, x], argTypes := #[t, t] })
    (base : Nat) (e : TypeId) (i : TypeInfo) (k : IntKind) (bytes : Nat) (ht : P.underlying t = some (.slice e)) (hi : P.info? e = some i) (hz : i.zero = some (.int k 0)) (hsize : i.size = 1) (hby : i.bytes = bytes)
    (v : Value) (n : Nat) (xs : List Int) (hs : a.eval s = v) (hown : w.ownsRow base e 1 v n (xs.map (Value.int k))) (B : Nat) (ad : Addr) (m c : Nat) (ys : List Int) (hx : a.eval x = .slice (some ad) m c) (hr : Row k w B (some ad) m ys)
    (hn : n + m ≤ 4398046511104) (hb8 : bytes ≤ 8) (hbase : base ≤ w.heap.size)
    (h : ∀ v' w', w'.ownsRow base e 1 v' (n + m) ((xs ++ ys).map (Value.int k)) → w.grownBy w' v.ownBlock → (v'.ownBlock = v.ownBlock ∨ v'.ownBlock = some w.heap.size) → K (a.put o.dst v') w') :
    if Region.wanted o (yielded ops a.tmps) = true then Oper.wp P o a w K Q else E := by
  have hw : Region.wanted o (yielded ops a.tmps) = true := by simp [Region.wanted, hgd]
  rw [if_pos hw]
  have hnews : ∀ j u, (ys.map (Value.int k))[j]? = some u → w.cell? (ad.add j) = some u := by
    intro j u hj
    have hjl : j < ys.length := by
      have := (List.getElem?_eq_some_iff.1 hj).1
      simpa using this
    have hl := hr.1
    obtain ⟨b, o, he, _, hc⟩ := hr.cell_at (show j < m by omega)
    injection he with he
    subst he
    have hadd : (⟨b, o, none⟩ : Addr).add j = ⟨b, o + j, none⟩ := by unfold Addr.add; split <;> simp_all
    rw [hadd, hc]
    simp only [List.getElem?_map, List.getElem?_eq_getElem hjl, Option.map_some, Option.some.injEq] at hj
    subst hj
    simp [List.getD, hjl]
  have h1 : ∀ u ∈ ys.map (Value.int k), u.oneCell' = true := by
    intro u hu
    obtain ⟨y, _, rfl⟩ := List.mem_map.1 hu
    rfl
  have hl : (ys.map (Value.int k)).length = m * 1 := by simp [hr.1]
  have h63 : n + m ≤ maxLen := by unfold maxLen; omega
  have hbb : (n + m) * bytes ≤ 140737488355328 := by have := Nat.mul_le_mul hn hb8; omega
  obtain ⟨v', w', hrun, h2, h3, _⟩ := run_append_own (P := P) w base t o.type e i (.int k 0) 1 bytes ht hi hz hsize hby rfl (by omega) v n _ hown ad m c _ hl hnews h1 h63 hbb hbase
  have h5 := append_lies (P := P) w base t o.type e i (.int k 0) 1 bytes ht hi hz hsize hby v n _ hown ad m c _ hl hnews h1 h63 hbb v' w' hrun
  unfold Oper.wp execOp
  simp only [ho, resolve, invoke, builtin, Sem.run_bind, Sem.run_pure, Result.andThen_ok, List.map_toArray, List.map_cons, List.map_nil, hs, hx, hrun]
  exact h v' w' (by simpa using h2) h3 h5
end Go.Proofs.YtmkdbpdfonpfdaaDoor.StepC

/- Layer 10 (token): the reference's Tag and Issue, as contracts. -/
namespace Go.Proofs.YtmkdbpdfonpfdaaDoor.Tok
open Go.RowKit Var Fld Frm Sha Hmc Rg

/-- The name of the tags. -/
def tokB : ByteArray := ⟨#[116, 111, 107, 101, 110]⟩
theorem tokB_sby : sby tokB = tokn := by decide +kernel

set_option maxHeartbeats 800000 in
set_option maxRecDepth 100000 in
theorem reftokentag_any (A : Option Addr) (n c B : Nat) (k : List Int) (t : T) (ht : t.ok) (w : World) (h : Row .u8 w B A n k) (hB : B ≤ w.heap.size) (hnil : A = none → c = 0) (hn : n ≤ 1099511627776) (hk : ∀ x ∈ k, 0 ≤ x ∧ x ≤ 255) :
    Calls Tryd.prog 32 #[.slice A n c, t.val] w fun e w' => ∃ v, e = .returned v ∧ w'.ownsRow w.heap.size 5 1 v 32 ((tagT k t).map (Value.int .u8)) ∧ Below w.heap.size w w' := by
  have hb : Below w.heap.size w (w.alloc (.cells t.cells 26)) := (Below.refl _ _).alloc (Nat.le_refl _) _
  have HB0 := Lib.hid hb
  have H := Lib.hid (h.below (hb.mono hB))
  have HS : Hid (B ≤ (w.alloc (.cells t.cells 26)).heap.size) := Nat.le_trans hB hb.size
  have HN := Lib.hid hnil
  have HK := Lib.hid hk
  have HF := Lib.hid (reffields_any t ht (w.alloc (.cells t.cells 26)))
  have HFL := Lib.hid (flds_len ht)
  have HFB := Lib.hid (flds_byt t)
  have hblk : (w.alloc (.cells t.cells 26)).heap[w.heap.size]? = some (.cells t.cells 26 (0, 0)) := heap_alloc_new w _
  unfold T.val at HF ⊢
  have eC : t.cells = #[.int .i64 t.tr, .int .i64 t.ac, .int .i64 t.st, .int .i64 t.is, .int .i64 t.un, .int .i64 t.ep] := rfl
  rw [eC] at hblk HB0 H HS HF ⊢
  have k0 := cell_of_blk (j := 0) hblk rfl
  have k1 := cell_of_blk (j := 1) hblk rfl
  have k2 := cell_of_blk (j := 2) hblk rfl
  have k3 := cell_of_blk (j := 3) hblk rfl
  have k4 := cell_of_blk (j := 4) hblk rfl
  have k5 := cell_of_blk (j := 5) hblk rfl
  clear h hB hnil hk hb hblk eC ht
  go_enter Tryd.func32, Tryd.ntmps32
  go_wp2_with fail
  refine HF.out.mono ?_
  rintro e1 w1 ⟨v1, rfl, hown1, hb1⟩
  obtain ⟨A1, c1, rfl, -, hnil1⟩ := own_slice hown1
  have HR1 : Hid (Row .u8 w1 w1.heap.size A1 (flds t).length (flds t)) := Row.of_own hown1
  have HN1 := Lib.hid hnil1
  have HB1 := Lib.hid (HB0.out.trans (hb1.mono HB0.out.size))
  have HR := Lib.hid ((H.out.below (hb1.mono HS.out)).more (Nat.le_trans HS.out hb1.size))
  clear hown1 hb1 hnil1
  go_wp2_with fail
  refine (refderive_any A A1 n c (flds t).length c1 k (flds t) tokB w1 HR.out HR1.out HN.out HN1.out hn (by have := HFL.out; omega) (by show 5 ≤ 137438953472; omega) HK.out HFB.out).mono ?_
  rintro e2 w2 ⟨v2, rfl, hown2, hb2⟩
  rw [tokB_sby] at hown2
  have HO2 : Hid (w2.ownsRow w.heap.size 5 1 v2 32 ((tagT k t).map (Value.int .u8))) := own_low hown2 HB1.out.size
  have HB2 := Lib.hid (HB1.out.trans (hb2.mono HB1.out.size))
  clear hown2 hb2
  go_wp2
  go_ret
  exact ⟨_, rfl, HO2.out, HB2.out⟩

theorem lastK_at {E : List Kl} {k : Kl} (h : E[E.length - 1]? = some k) : lastK E = k.2 := by
  unfold lastK
  rw [List.getLast?_eq_getElem?, h]
  rfl
theorem issue_no {keep : Int} {E : List Kl} {t : T} (h : ¬ (RtP keep E ∧ (t.at (now E)).may)) : issue keep E t = ([], 2) := by unfold issue; rw [if_neg h]
theorem issue_yes {keep : Int} {E : List Kl} {t : T} (h : RtP keep E ∧ (t.at (now E)).may) : issue keep E t = (frame 2 (body (lastK E) (t.at (now E))), 0) := by unfold issue; rw [if_pos h]
/-- What the reference's Issue answers. -/
def IssueTo (w : World) (r : List Int × Int) (x : Ending) (w' : World) : Prop :=
  ∃ A n c, x = .returned (.tuple #[.slice A n c, .int .i64 r.2]) ∧ Row .u8 w' w'.heap.size A n r.1 ∧ (A = none → c = 0) ∧ Below w.heap.size w w'

set_option maxHeartbeats 3200000 in
set_option maxRecDepth 100000 in
theorem refissue_any (keep : Int) (A : Option Addr) (n c : Nat) (K : List Kp) (t : T) (ht : t.ok) (w : World) (h : KRow w w.heap.size A n K) (hn : n ≤ 4398046511104) (hk100 : ∀ k ∈ K, k.p.n ≤ 100) :
    Calls Tryd.prog 10 #[.agg #[.int .i64 keep, .slice A n c], t.val] w (IssueTo w (issue keep (ls K) t)) := by
  obtain ⟨i0, hi, hz0, hz1, hz2⟩ := Sha.parts_of info8
  have H := Lib.hid h
  have HTO := Lib.hid ht
  have H100 := Lib.hid hk100
  obtain ⟨w2, hw2⟩ : ∃ w2, (w.alloc (.cells #[.int .i64 keep, .slice A n c] 24)).alloc (.cells t.cells 26) = w2 := ⟨_, rfl⟩
  have hb2 : Below w.heap.size w w2 := by rw [← hw2]; exact ((Below.refl _ _).alloc (Nat.le_refl _) _).alloc (by simp) _
  have hs2 : w2.heap.size = w.heap.size + 1 + 1 := by rw [← hw2]; simp
  have HG0 : Hid (w2.heap[w.heap.size]? = some (.cells #[.int .i64 keep, .slice A n c] 24 (0, 0))) := by unfold Hid; rw [← hw2]; exact heap_alloc2_old w _ _
  have HG1 : Hid (w2.heap[w.heap.size + 1]? = some (.cells t.cells 26 (0, 0))) := by unfold Hid; rw [← hw2]; exact heap_alloc2_new w _ _
  have g0 := cell_of_blk (j := 0) HG0.out rfl
  have g1 := cell_of_blk (j := 1) HG0.out rfl
  have HB2 := Lib.hid hb2
  have HS2 := Lib.hid hs2
  have eC : t.cells = #[.int .i64 t.tr, .int .i64 t.ac, .int .i64 t.st, .int .i64 t.is, .int .i64 t.un, .int .i64 t.ep] := rfl
  unfold T.val
  rw [eC] at hw2 ⊢
  have HW2 := Lib.hid hw2
  rw [← hw2] at g0 g1
  clear h ht hk100 hb2 hs2 hw2 eC
  go_enter Tryd.func10, Tryd.ntmps10
  go_wp2_with fail
  rw [HW2.out]
  refine (refright_any keep A n c w.heap.size K w2 (H.out.below HB2.out) HB2.out.size hn).mono ?_
  rintro e3 w3 ⟨rfl, hb3⟩
  have HB3 := Lib.hid (HB2.out.trans (hb3.mono HB2.out.size))
  have HG03 : Hid (w3.heap[w.heap.size]? = some (.cells #[.int .i64 keep, .slice A n c] 24 (0, 0))) := (hb3.block _ (by have := HS2.out; omega)).trans HG0.out
  have HG13 : Hid (w3.heap[w.heap.size + 1]? = some (.cells t.cells 26 (0, 0))) := (hb3.block _ (by have := HS2.out; omega)).trans HG1.out
  clear hb3 g0 g1
  cases hrt : rt keep (ls K) with
  | false =>
    have HNO : Hid (issue keep (ls K) t = ([], 2)) := issue_no (fun hh => by rw [rt_yes hh.1] at hrt; cases hrt)
    clear hrt
    go_wp2
    go_ret2
    rw [HNO.out]
    exact ⟨none, 0, 0, rfl, Row.none_, fun _ => rfl, HB3.out⟩
  | true =>
    have HRT := Lib.hid (rt_true.1 hrt)
    clear hrt
    have hn1 : 1 ≤ n := by have h1 := HRT.out.2.2.1; rw [ls_len, H.out.len] at h1; exact h1
    have hn16 : n ≤ 16 := by have h1 := HRT.out.2.2.2.1; have h2 := HRT.out.2.1; rw [ls_len, H.out.len] at h1; omega
    obtain ⟨b, o, k, rfl, hbb, hk, hok, k0, k1⟩ := (H.out.below HB3.out).at (j := n - 1) (by omega)
    have hla := ls_at hk
    have hN : now (ls K) = k.e := now_at (k := (k.e, k.p.xs)) (by rw [ls_len, H.out.len]; exact hla)
    have hLK : lastK (ls K) = k.p.xs := lastK_at (k := (k.e, k.p.xs)) (by rw [ls_len, H.out.len]; exact hla)
    have hNb := now_le HRT.out
    rw [hN] at hNb
    have hkm := H100.out k (List.mem_of_getElem? hk)
    obtain ⟨N, kA, kn, kc, kxs⟩ := k
    simp only at k0 k1 hN hLK hNb hkm
    have HOK := Lib.hid hok
    have g1 := cell_of_blk (j := 1) HG03.out rfl
    have m1 : IntKind.i64.wrap ((n : Int) - 1) = (n : Int) - 1 := IntWalk.i64_in _ ⟨by omega, by omega⟩
    have p1 : (0 : Int) ≤ (n : Int) - 1 := by omega
    have p2 : (n : Int) - 1 < (n : Int) := by omega
    have n1 : ((n : Int) - 1).toNat = n - 1 := by omega
    have HKAT := Lib.hid hk
    have HN := Lib.hid hN
    have HLK := Lib.hid hLK
    -- the key's box, the token with its epoch
    have hb4 : Below w3.heap.size w3 (w3.alloc (.cells #[.int .i64 N, .slice kA kn kc] 58)) := (Below.refl _ _).alloc (Nat.le_refl _) _
    have h34 := hb4.size
    have hl3 : w.heap.size + 1 < w3.heap.size := (Array.getElem?_eq_some_iff.1 HG13.out).1
    have hk4 : (w3.alloc (.cells #[.int .i64 N, .slice kA kn kc] 58)).heap[w3.heap.size]? = some (.cells #[.int .i64 N, .slice kA kn kc] 58 (0, 0)) := heap_alloc_new w3 _
    have ht4 := (hb4.block _ hl3).trans HG13.out
    have x0 := cell_of_blk (j := 0) hk4 rfl
    have x5 : (w3.alloc (.cells #[.int .i64 N, .slice kA kn kc] 58)).cell? ⟨w.heap.size + 1, 5, none⟩ = some (.int .i64 t.ep) := cell_of_blk (j := 5) ht4 rfl
    have xf : (w3.alloc (.cells #[.int .i64 N, .slice kA kn kc] 58)).frozen? ⟨w.heap.size + 1, 5, none⟩ = false := free_of_blk ht4
    have hT5 : ((w3.alloc (.cells #[.int .i64 N, .slice kA kn kc] 58)).setCell ⟨w.heap.size + 1, 5, none⟩ (.int .i64 N)).heap[w.heap.size + 1]? = some (.cells (t.at N).cells 26 (0, 0)) := set_blk ht4
    have hK5 : ((w3.alloc (.cells #[.int .i64 N, .slice kA kn kc] 58)).setCell ⟨w.heap.size + 1, 5, none⟩ (.int .i64 N)).heap[w3.heap.size]? = some (.cells #[.int .i64 N, .slice kA kn kc] 58 (0, 0)) := (heap_setCell_other _ _ _ _ (by simp; omega)).trans hk4
    have hB5 : Below w.heap.size w ((w3.alloc (.cells #[.int .i64 N, .slice kA kn kc] 58)).setCell ⟨w.heap.size + 1, 5, none⟩ (.int .i64 N)) := (HB3.out.alloc HB3.out.size _).setCell (by simp) _
    have HT5 := Lib.hid hT5
    have HK5 := Lib.hid hK5
    have HB5 := Lib.hid hB5
    have HKM := Lib.hid hkm
    clear hok hk hla hN hLK hkm hb4 h34 hl3 hk4 ht4 hT5 hK5 hB5
    have y0 := cell_of_blk (j := 0) HT5.out rfl
    have y1 := cell_of_blk (j := 1) HT5.out rfl
    have y2 := cell_of_blk (j := 2) HT5.out rfl
    have y3 := cell_of_blk (j := 3) HT5.out rfl
    have y4 := cell_of_blk (j := 4) HT5.out rfl
    have y5 := cell_of_blk (j := 5) HT5.out rfl
    go_wp2_with fail
    generalize (w3.alloc (.cells #[.int .i64 N, .slice kA kn kc] 58)).setCell ⟨w.heap.size + 1, 5, none⟩ (.int .i64 N) = w5 at *
    generalize w3.heap.size = G at *
    clear x0 x5 xf k0 k1 y0 y1 y2 y3 y4 y5 m1 p1 p2 n1 g1 HG03 HG13 HG0 HG1
    have htk : (t.at N).ok := ⟨HTO.out.tr, HTO.out.ac, HTO.out.st, HTO.out.is, HTO.out.un, by show -9223372036854775808 ≤ N ∧ N ≤ 9223372036854775807; omega⟩
    have HTK := Lib.hid htk
    clear htk
    obtain ⟨U, hU⟩ : ∃ U, t.at N = U := ⟨_, rfl⟩
    have HMY := Lib.hid (refmay_any (t.at N) w5)
    unfold T.val at HMY
    have HU := Lib.hid hU
    refine Calls.mono (by have := HMY.out; exact this) ?_
    rintro e6 w6 ⟨rfl, hb6⟩
    rw [hU] at HT5 HTK
    clear hU HMY
    by_cases hmay : U.may
    · have hdm : decide (t.at N).may = true := decide_eq_true (by rw [HU.out]; exact hmay)
      have HYES : Hid (issue keep (ls K) t = (frame 2 (body kxs U), 0)) := by
        have h1 := issue_yes (keep := keep) (E := ls K) (t := t) ⟨HRT.out, by rw [HN.out, HU.out]; exact hmay⟩
        rwa [HN.out, HLK.out, HU.out] at h1
      have HBD : Hid (Below w.heap.size w w6.drew) := (HB5.out.trans (hb6.mono HB5.out.size)).drew
      have HTD : Hid (w6.drew.heap[w.heap.size + 1]? = some (.cells U.cells 26 (0, 0))) := (hb6.block _ (Array.getElem?_eq_some_iff.1 HT5.out).1).trans HT5.out
      have HKD : Hid (w6.drew.heap[G]? = some (.cells #[.int .i64 N, .slice kA kn kc] 58 (0, 0))) := (hb6.block _ (Array.getElem?_eq_some_iff.1 HK5.out).1).trans HK5.out
      have HRK : Hid (Row .u8 w3 w.heap.size kA kn kxs) := HOK.out.right.1
      have HRKD : Hid (Row .u8 w6.drew w.heap.size kA kn kxs) := (H.out.ok _ (List.mem_of_getElem? HKAT.out)).right.1.below HBD.out
      have HCE : Hid (∀ wy, Below w6.drew.heap.size w6.drew wy → wy.cell? ⟨w.heap.size + 1, 0, none⟩ = some (.int .i64 U.tr) ∧ wy.cell? ⟨w.heap.size + 1, 1, none⟩ = some (.int .i64 U.ac) ∧ wy.cell? ⟨w.heap.size + 1, 2, none⟩ = some (.int .i64 U.st) ∧ wy.cell? ⟨w.heap.size + 1, 3, none⟩ = some (.int .i64 U.is) ∧ wy.cell? ⟨w.heap.size + 1, 4, none⟩ = some (.int .i64 U.un) ∧ wy.cell? ⟨w.heap.size + 1, 5, none⟩ = some (.int .i64 U.ep) ∧ wy.cell? ⟨G, 1, none⟩ = some (.slice kA kn kc)) := fun wy hy => by
        have h1 := (hy.block _ (Array.getElem?_eq_some_iff.1 HTD.out).1).trans HTD.out
        have h2 := (hy.block _ (Array.getElem?_eq_some_iff.1 HKD.out).1).trans HKD.out
        exact ⟨cell_of_blk h1 rfl, cell_of_blk h1 rfl, cell_of_blk h1 rfl, cell_of_blk h1 rfl, cell_of_blk h1 rfl, cell_of_blk h1 rfl, cell_of_blk h2 rfl⟩
      have a0 := HCE.out w6.drew (Below.refl _ _)
      have HF := Lib.hid (reffields_any U HTK.out w6.drew)
      have HTG := Lib.hid (fun (wy : World) (hy : Below w6.drew.heap.size w6.drew wy) => reftokentag_any kA kn kc w.heap.size kxs U HTK.out wy (HRKD.out.below (hy.mono HBD.out.size)) (Nat.le_trans HBD.out.size hy.size) HOK.out.right.2 (by have h1 : kn ≤ 100 := HKM.out; omega) HOK.out.byt)
      have HFL := Lib.hid (flds_len HTK.out)
      have HDS : Hid (w.heap.size ≤ w6.drew.heap.size) := HBD.out.size
      have HBYT := Lib.hid (body_byt kxs U)
      have HBDL := Lib.hid (body_len (k := kxs) HTK.out)
      have HN32 : Hid ((num 32).length ≤ 10) := num_len (by omega)
      obtain ⟨Y, hY⟩ : ∃ Y, Y = num ((32 : Nat) : Int) ++ tagT kxs U := ⟨_, rfl⟩
      have HYB : Hid (flds U ++ Y = body kxs U) := by unfold Hid; rw [hY]; rfl
      have HYL : Hid (Y.length ≤ 42) := by unfold Hid; rw [hY, List.length_append, tagT_len]; have h1 := HN32.out; show (num 32).length + 32 ≤ 42; omega
      have HYP : Hid (0 < Y.length) := by unfold Hid; rw [hY, List.length_append, tagT_len]; omega
      have HBYS : Hid (∀ (Ax : Option Addr) (cx : Nat) (wx : World), Row .u8 wx wx.heap.size Ax 32 (tagT kxs U) → (Ax = none → cx = 0) → Calls Tryd.prog 31 #[.slice Ax 32 cx] wx (Makes Y wx)) := fun Ax cx wx h1 h2 => by
        have h3 := refbytes_any Ax 32 cx wx.heap.size (tagT kxs U) wx h1 (Nat.le_refl _) h2 (by omega)
        rwa [← hY] at h3
      clear hY
      unfold T.val at HF HTG
      have eU : U.cells = #[.int .i64 U.tr, .int .i64 U.ac, .int .i64 U.st, .int .i64 U.is, .int .i64 U.un, .int .i64 U.ep] := rfl
      rw [eU] at HF HTG
      clear hb6 eU HTD HKD
      go_wp2_with fail
      go_region_held3 (fun wx => wx.cell? ⟨w.heap.size + 1, 0, none⟩ = some (.int .i64 U.tr) ∧ wx.cell? ⟨w.heap.size + 1, 1, none⟩ = some (.int .i64 U.ac) ∧ wx.cell? ⟨w.heap.size + 1, 2, none⟩ = some (.int .i64 U.st) ∧ wx.cell? ⟨w.heap.size + 1, 3, none⟩ = some (.int .i64 U.is) ∧ wx.cell? ⟨w.heap.size + 1, 4, none⟩ = some (.int .i64 U.un) ∧ wx.cell? ⟨w.heap.size + 1, 5, none⟩ = some (.int .i64 U.ep) ∧ wx.cell? ⟨G, 1, none⟩ = some (.slice kA kn kc)) (first | exact a0 | exact a7 | exact a8 | exact a9 | exact a10 | exact a11) (first
        | (go_at_call 15; (with_reducible refine HF.out.mono ?_); go_loud (rintro e7 w7 ⟨v7, rfl, hown7, hb7⟩; obtain ⟨A7, c7, rfl, -, -⟩ := own_slice hown7; have HO7 := Lib.hid hown7; have HY7 := Lib.hid hb7; have a7 := HCE.out w7 hb7; clear hown7 hb7))
        | (go_at_call 32; (with_reducible refine (HTG.out w7 HY7.out).mono ?_); go_loud (rintro e8 w8 ⟨v8, rfl, hown8, hb8⟩; obtain ⟨A8, c8, rfl, -, hnil8⟩ := own_slice hown8; have HR8 : Hid (Row .u8 w8 w8.heap.size A8 32 (tagT kxs U)) := Row.of_own hown8; have HN8 := Lib.hid hnil8; have HO8 := Lib.hid (own_below HO7.out hb8); have HY8 := Lib.hid (HY7.out.trans (hb8.mono HY7.out.size)); have a8 := HCE.out w8 HY8.out; clear hown8 hb8 hnil8))
        | (go_at_call 31; (with_reducible refine (HBYS.out A8 c8 w8 HR8.out HN8.out).mono ?_); go_loud (rintro e9 w9 ⟨v9, rfl, hown9, hb9⟩; obtain ⟨A9, c9, rfl, -, -⟩ := own_slice hown9; obtain ⟨g9, rfl, -⟩ := own_at hown9 HYP.out; have HR9 := Lib.hid (Row.of_own hown9); have HO9 := Lib.hid (own_below HO8.out hb9); have HY9 := Lib.hid (HY8.out.trans (hb9.mono HY8.out.size)); have a9 := HCE.out w9 HY9.out; clear hown9 hb9))
        | (go_at_call 30; go_loud (refine (refput_any 2 (by omega) A10 n10 c10 (body kxs U) w10 HR10.out HN10.out HBYT.out (by have h1 := HBDL.out; have h2 := HR10.out.len; omega)).mono ?_); go_loud (rintro e11 w11 ⟨v11, rfl, hown11, hb11⟩; have HO11 := Lib.hid hown11; have HY11 := Lib.hid (HY10.out.trans (hb11.mono HY10.out.size)); have a11 := HCE.out w11 HY11.out; clear hown11 hb11))
        | (refine StepC.step_cat rfl (.tmp 25) (.tmp 30) 29 rfl w6.drew.heap.size 5 i0 .u8 1 Tryd.underlying29 hi hz0 hz1 hz2 _ (flds U).length (flds U) rfl HO9.out w9.heap.size ⟨g9, 0, none⟩ Y.length c9 Y rfl HR9.out (by have h1 := HFL.out; have h2 := HYL.out; omega) (by omega) HY9.out.size ?_; go_loud (intro v10 w10 hown10 hg10 hl10; obtain ⟨A10, c10, rfl, -, hnil10⟩ := own_slice hown10; have HN10 := Lib.hid hnil10; have hy10 := HY9.out.trans ((Below.refl w6.drew.heap.size w9).grown hg10 HY9.out.size (fun j hj => (HO9.out.lt j hj).1)); have HY10 := Lib.hid hy10; rw [HYB.out] at hown10; obtain ⟨n10, hn10⟩ : ∃ n10, n10 = (flds U).length + Y.length := ⟨_, rfl⟩; rw [← hn10] at hown10 ⊢; have HR10 : Hid (Row .u8 w10 w10.heap.size A10 n10 (body kxs U)) := Row.of_own hown10; have a10 := HCE.out w10 hy10; clear hown10 hg10 hl10 hnil10 hy10 hn10)))
      go_wp2
      go_ret2
      rw [HYES.out]
      obtain ⟨A11, c11, rfl, -, hnil11⟩ := own_slice HO11.out
      exact ⟨A11, _, c11, rfl, Row.of_own HO11.out, hnil11, HBD.out.trans (HY11.out.mono HDS.out)⟩
    · have hdm : decide (t.at N).may = false := decide_eq_false (by rw [HU.out]; exact hmay)
      have HNO : Hid (issue keep (ls K) t = ([], 2)) := issue_no (fun hh => hmay (by have := hh.2; rwa [HN.out, HU.out] at this))
      have HB6 := Lib.hid (HB5.out.trans (hb6.mono HB5.out.size))
      clear hb6
      go_wp2
      go_ret2
      rw [HNO.out]
      exact ⟨none, 0, 0, rfl, Row.none_, fun _ => rfl, HB6.out⟩
end Go.Proofs.YtmkdbpdfonpfdaaDoor.Tok

/- Results of which the first lies in a block of its own, over any program. -/
namespace Go.Proofs.YtmkdbpdfonpfdaaDoor
open Go.RowKit

theorem results_cell_tmps {fn : Func} {p u v : Tmp} {ty : TypeId} {P : Program} (h : fn.results = #[.cell p ty, .tmp u, .tmp v]) (tmps : Array Value) (w : World) (g : Nat) (cs : Array Value)
    (hp : tmps.getD p undef = .pointer (some ⟨g, 0, none⟩)) (hl : (loadVar ty ⟨g, 0, none⟩).run P w = .ok (.agg cs) w) :
    (results fn tmps).run P w = .ok (.tuple #[.agg cs, tmps.getD u undef, tmps.getD v undef]) w := by
  have hp' : tmps[p]?.getD undef = .pointer (some ⟨g, 0, none⟩) := by simpa using hp
  simp [results, h, hp', asAddr, hl]
theorem results_cell_one {fn : Func} {p u : Tmp} {ty : TypeId} {P : Program} (h : fn.results = #[.cell p ty, .tmp u]) (tmps : Array Value) (w : World) (g : Nat) (cs : Array Value)
    (hp : tmps.getD p undef = .pointer (some ⟨g, 0, none⟩)) (hl : (loadVar ty ⟨g, 0, none⟩).run P w = .ok (.agg cs) w) :
    (results fn tmps).run P w = .ok (.tuple #[.agg cs, tmps.getD u undef]) w := by
  have hp' : tmps[p]?.getD undef = .pointer (some ⟨g, 0, none⟩) := by simpa using hp
  simp [results, h, hp', asAddr, hl]
end Go.Proofs.YtmkdbpdfonpfdaaDoor

/- What layer 4's Take returns, as a contract over the program. -/
namespace Go.Proofs.YtmkdbpdfonpfdaaDoor.Frm
open Go.RowKit Var Crc Slc
attribute [local go_sem ↓] Go.wp_at_zero Go.wp_at_succ

theorem results_tmp4 {fn : Func} {t u v x : Tmp} (h : fn.results = #[.tmp t, .tmp u, .tmp v, .tmp x]) (tmps : Array Value) (P : Program) (w : World) :
    (results fn tmps).run P w = .ok (.tuple #[tmps.getD t undef, tmps.getD u undef, tmps.getD v undef, tmps.getD x undef]) w := by
  simp [results, h]

/-- What is left from a label on. -/
def Later (P : Program) (rest : Code) (Q : Exit → Act → World → Prop) (a : Act) (w : World) : Prop := rest.wp P Q a w
/-- A scope whose one label is jumped to from ahead alone. -/
theorem scope_on {P : Program} {a : Act} {w : World} {Q : Exit → Act → World → Prop} {c rest : Code} (l : Nat) (hf : findLabel c l = some (.seq .skip rest))
    (h : c.wp P (Exit.jump l (Later P rest (Exit.jump l (fun _ _ => False) Q)) Q) a w) : (Code.scope c).wp P Q a w := by
  refine wp_scope_jumps l (Later P rest (Exit.jump l (fun _ _ => False) Q)) (fun _ _ => 0) hf h ?_
  intro a w hJ
  refine wp_seq (wp_skip (wp_mono hJ ?_))
  intro e a' w' h
  cases e <;> first | exact h.2.elim | exact h

/-- A part of a slice. -/
theorem row_sub {k : IntKind} {w : World} {B b o n : Nat} {xs : List Int} (h : Row k w B (some ⟨b, o, none⟩) n xs) {lo m : Nat} (hm : lo + m ≤ n) : Row k w B (some ⟨b, o + lo, none⟩) m ((xs.drop lo).take m) := by
  have hl := h.1
  refine ⟨by simp; omega, fun h0 => ?_⟩
  obtain ⟨b', o', e, hb, hc⟩ := h.2 (by omega)
  injection e with e
  injection e with e1 e2
  subst e1; subst e2
  refine ⟨b, o + lo, rfl, hb, fun j hj => ?_⟩
  rw [Nat.add_assoc, hc (lo + j) (by omega)]
  simp [List.getD, hj]

/-- What Take returns. -/
def Takes (t : Int × List Int × Nat × Nat) (w : World) (e : Ending) (w' : World) : Prop :=
  ∃ v, e = .returned (.tuple #[.int .u8 t.1, v, .int .i64 (t.2.2.1 : Int), .int .i64 (t.2.2.2 : Int)]) ∧ w'.ownsRow w.heap.size 5 1 v t.2.1.length (t.2.1.map (Value.int .u8)) ∧ Below w.heap.size w w'

set_option maxHeartbeats 3200000 in
set_option maxRecDepth 100000 in
theorem take_good (b o n c sz cnt f t : Nat) (xs : List Int) (w : World) (hr : Row .u8 w w.heap.size (some ⟨b, o, none⟩) n xs) (hx : Byt xs) (hn : n ≤ 4398046511104) (hcap : n ≤ c) (hc' : c ≤ 9223372036854775807)
    (h1 : xs.getD 0 0 = 199) (hc2 : ¬ c = 2) (hk : take 0 0 (xs.drop 2) = (cnt, sz, 0)) (hsz : sz ≤ n - 2 ∧ 0 < sz) (hcnt : ¬ 1048576 < cnt) (hf : f = 2 + sz) (ht : t = f + cnt) (htn : t + 4 ≤ n) :
    Calls Tryd.prog 62 #[.slice (some ⟨b, o, none⟩) n c] w (Takes (took xs) w) := by
  have HR := Lib.hid hr
  have HX := Lib.hid hx
  have HK := Lib.hid hk
  have hlen := hr.len
  have hcell0 := (hr.cell_at (j := 0) (by omega))
  have hcell1 := (hr.cell_at (j := 1) (by omega))
  obtain ⟨_, _, e, hbw, hcell0⟩ := hcell0
  injection e with e
  injection e with e1 e2
  subst e1; subst e2
  obtain ⟨_, _, e, _, hcell1⟩ := hcell1
  injection e with e
  injection e with e1 e2
  subst e1; subst e2
  rw [Nat.add_zero, h1] at hcell0
  have hnb : ((n : Int) == 0) = false := beq_eq_false_iff_ne.2 (by omega)
  have hto : Hid (to_ xs = t) := by unfold Hid to_ from_; rw [hk]; simp only; omega
  have hfrom : Hid (from_ xs = f) := by unfold Hid from_; rw [hk]; simp only; omega
  have HR2 : Hid (Row .u8 w w.heap.size (some ⟨b, o + 2, none⟩) (n - 2) (xs.drop 2)) := by
    have := row_sub HR.out (lo := 2) (m := n - 2) (by omega)
    rwa [List.take_of_length_le (by simp; omega)] at this
  have HT : Hid (took xs = if (xs.drop t).take 4 ≠ byts 4 (sum (xs.take t)) then (0, [], 0, 12) else (xs.getD 1 0, (xs.drop f).take cnt, t + 4, 0)) := by
    unfold Hid took
    rw [if_neg (by omega), if_neg (by simp only [h1, ne_eq, not_true, not_false_iff]), if_neg (by omega), HK.out, if_neg (by simp), if_neg hcnt, hto.out, if_neg (by omega), hfrom.out]
  have HRS : Hid (Row .u8 w w.heap.size (some ⟨b, o + t, none⟩) (((t : Int) + 4).toNat - t) ((xs.drop t).take 4)) := by
    unfold Hid
    rw [show ((t : Int) + 4).toNat - t = 4 by omega]
    exact row_sub HR.out (by omega)
  have HRT : Hid (Row .u8 w w.heap.size (some ⟨b, o, none⟩) t (xs.take t)) := by
    have := row_sub HR.out (lo := 0) (m := t) (by omega)
    rwa [Nat.add_zero, List.drop_zero] at this
  have HRC : Hid (Row .u8 w w.heap.size (some ⟨b, o + f, none⟩) (t - f) ((xs.drop f).take cnt)) := by
    unfold Hid
    rw [show t - f = cnt by omega]
    exact row_sub HR.out (by omega)
  have HCL : Hid (((xs.drop f).take cnt).length = t - f) := HRC.out.len
  have hy := HX.out.getD 1
  have hsum1 : IntKind.i64.wrap (2 + (sz : Int)) = (f : Int) := by rw [IntWalk.i64_in _ ⟨by omega, by omega⟩]; omega
  have hsum2 : IntKind.i64.wrap ((f : Int) + (cnt : Int)) = (t : Int) := by rw [IntWalk.i64_in _ ⟨by omega, by omega⟩]; omega
  have hconv : IntKind.i64.wrap (cnt : Int) = (cnt : Int) := IntWalk.i64_in _ ⟨by omega, by omega⟩
  have hw4 : IntKind.i64.wrap ((t : Int) + 4) = (t : Int) + 4 := IntWalk.i64_in _ ⟨by omega, by omega⟩
  have hct : ¬ c = t := by omega
  have hcf : ¬ c = f := by omega
  have i1 : (0 : Int) ≤ (t : Int) := by omega
  have i2 : (t : Int) ≤ (t : Int) + 4 := by omega
  have i3 : (t : Int) + 4 ≤ (c : Int) := by omega
  have i4 : (t : Int) ≤ (c : Int) := by omega
  have i5 : (f : Int) ≤ (t : Int) := by omega
  have i6 : (0 : Int) ≤ (f : Int) := by omega
  have i7 : (t : Int) + 4 ≤ (n : Int) := by omega
  have i8 : (2 : Int) ≤ (n : Int) := by omega
  have i9 : (1 : Int) < (n : Int) := by omega
  have HFT := Lib.hid ht
  have d1 : decide ((n : Int) < 2) = false := by simp; omega
  have d2 : decide ((1048576 : Int) < (cnt : Int)) = false := by simp; omega
  have d3 : decide ((n : Int) < (t : Int) + 4) = false := by simp; omega
  clear hr hx hk h1 hf ht htn hsz hcnt hlen
  go_enter Tryd.func62, Tryd.ntmps62
  go_wp2_with fail
  refine scope_on 0 rfl ?_
  go_wp2_with fail
  refine (Var.take_any (some ⟨b, o + 2, none⟩) (n - 2) (c - 2) w.heap.size (xs.drop 2) w HR2.out (HX.out.drop 2)).mono ?_
  rintro e1 w1 ⟨rfl, rfl⟩
  rw [HK.out]
  go_wp2_with fail
  clear hsum1 hsum2 hconv d1 d2 d3 hnb hcell0
  clear hto hfrom HR2 HK
  go_region_held3 (fun _ => True) (trivial) (first
    | (go_at_call 73; refine (fsum_any (some ⟨b, o, none⟩) t c w.heap.size (xs.take t) _ HRT.out.drew (HX.out.take t) (Nat.le_refl _) (by omega)).mono ?_; rintro r1 w5 ⟨v5, rfl, hown5, hb5⟩; obtain ⟨A5, c5, rfl, -, -⟩ := own_slice hown5; have HO5 := Lib.hid hown5; have HB5 := Lib.hid hb5; clear hown5 hb5)
    | (go_at_call 77; refine (equal_any (some ⟨b, o + t, none⟩) A5 (((t : Int) + 4).toNat - t) (c - t) 4 c5 w.heap.size _ ((xs.drop t).take 4) (byts 4 (sum (xs.take t))) _ (HRS.out.drew.below HB5.out) (Row.of_own HO5.out) ((HX.out.drop t).take 4) (byts_byt _ _)).mono ?_; rintro r2 w6 ⟨rfl, rfl⟩))
  have HBW := Lib.hid ((Below.refl w.heap.size w).drew.trans HB5.out)
  by_cases heq : (xs.drop t).take 4 = byts 4 (sum (xs.take t))
  · have hdec : decide ((xs.drop t).take 4 = byts 4 (sum (xs.take t))) = true := decide_eq_true heq
    have HT' := Lib.hid (HT.out.trans (if_neg (by simp only [heq, ne_eq, not_true, not_false_iff])))
    rw [hdec]
    clear HT heq hdec
    generalize xs.getD 1 0 = y at *
    have m1 : w5.cell? ⟨b, o + 1, none⟩ = some (.int .u8 y) := (HBW.out.cell (p := ⟨b, o + 1, none⟩) hbw).trans hcell1
    have m2 : w5.drew.cell? ⟨b, o + 1, none⟩ = some (.int .u8 y) := m1
    have HRC5 := Lib.hid (HRC.out.below HBW.out).drew
    have hs5 := HBW.out.size
    clear hcell1
    go_wp2
    go_region_held3 (fun wx => wx.cell? ⟨b, o + 1, none⟩ = some (.int .u8 y)) (first | exact m1 | exact m3) (
      (go_at_call 46; refine (clone_any (some ⟨b, o + f, none⟩) (t - f) (c - f) w.heap.size ((xs.drop f).take cnt) _ HRC5.out (fun h => by cases h) hs5 (by omega)).mono ?_; rintro r3 w7 ⟨v7, rfl, hown7, hb7⟩; have m3 := (hb7.cell (p := ⟨b, o + 1, none⟩) (Nat.lt_of_lt_of_le hbw hs5)).trans m2; have HO7 := Lib.hid hown7; have HB7 := Lib.hid hb7; clear hown7 hb7))
    go_wp2
    simp only [Exit.jump]
    refine bodyPost_ret (results_tmp4 rfl _ _ _) rfl ?_
    rw [HT'.out]
    refine ⟨v7, rfl, ?_, HBW.out.drew.trans (HB7.out.mono hs5)⟩
    simp only
    rw [HCL.out]
    exact own_mono HO7.out hs5
  · have hdec : decide ((xs.drop t).take 4 = byts 4 (sum (xs.take t))) = false := decide_eq_false heq
    have HT' := Lib.hid (HT.out.trans (if_pos heq))
    rw [hdec]
    clear HT heq hdec
    go_wp2
    go_step3
    refine ⟨rfl, ?_⟩
    unfold Later
    go_wp2
    simp only [Exit.jump]
    refine bodyPost_ret (results_tmp4 rfl _ _ _) rfl ?_
    rw [HT'.out]
    exact ⟨_, rfl, World.ownsRow_nil _ _ _ _, HBW.out⟩

set_option maxHeartbeats 1600000 in
set_option maxRecDepth 100000 in
theorem take_any (A : Option Addr) (n c : Nat) (xs : List Int) (w : World) (hr : Row .u8 w w.heap.size A n xs) (hnil : A = none → c = 0) (hx : Byt xs) (hn : n ≤ 4398046511104) (hcap : n ≤ c) (hc : c ≤ maxLen) :
    Calls Tryd.prog 62 #[.slice A n c] w (Takes (took xs) w) := by
  have HR := Lib.hid hr
  have HX := Lib.hid hx
  have HN := Lib.hid hnil
  have hlen := hr.len
  have hc' : c ≤ 9223372036854775807 := by unfold maxLen at hc; omega
  clear hr hx hnil hc
  by_cases h0 : n = 0
  · subst h0
    have HT : Hid (took xs = (0, [], 0, 10)) := by unfold Hid took; rw [if_pos hlen]
    rw [HT.out]
    go_enter Tryd.func62, Tryd.ntmps62
    go_wp2
    refine scope_on 0 rfl ?_
    go_wp2
    go_step3
    refine ⟨rfl, ?_⟩
    unfold Later
    go_wp2
    simp only [Exit.jump]
    refine bodyPost_ret (results_tmp4 rfl _ _ _) rfl ?_
    exact ⟨_, rfl, World.ownsRow_nil _ _ _ _, Below.refl _ _⟩
  obtain ⟨b, o, rfl, hbw, hcell0⟩ := HR.out.cell_at (show 0 < n by omega)
  rw [Nat.add_zero] at hcell0
  have hnb : ((n : Int) == 0) = false := beq_eq_false_iff_ne.2 (by omega)
  have hy := HX.out.getD 0
  by_cases h1 : ¬ xs.getD 0 0 = 199
  · have HT : Hid (took xs = (0, [], 0, 11)) := by unfold Hid took; rw [if_neg (by omega), if_pos h1]
    rw [HT.out]
    have hb1 : (xs.getD 0 0 == 199) = false := beq_eq_false_iff_ne.2 h1
    have hb2 : (xs.getD 0 0 != 199) = true := by rw [bne, hb1]; rfl
    generalize xs.getD 0 0 = y at *
    clear h1
    go_enter Tryd.func62, Tryd.ntmps62
    go_wp2
    refine scope_on 0 rfl ?_
    go_wp2
    go_step3
    refine ⟨rfl, ?_⟩
    unfold Later
    go_wp2
    simp only [Exit.jump]
    refine bodyPost_ret (results_tmp4 rfl _ _ _) rfl ?_
    exact ⟨_, rfl, World.ownsRow_nil _ _ _ _, Below.refl _ _⟩
  have h1 : xs.getD 0 0 = 199 := Decidable.not_not.1 h1
  rw [h1] at hcell0
  by_cases h2 : n < 2
  · have HT : Hid (took xs = (0, [], 0, 10)) := by unfold Hid took; rw [if_neg (by omega), if_neg (by simp only [h1, ne_eq, not_true, not_false_iff]), if_pos (by omega)]
    rw [HT.out]
    clear h1 hy
    go_enter Tryd.func62, Tryd.ntmps62
    go_wp2
    refine scope_on 0 rfl ?_
    go_wp2
    go_step3
    refine ⟨rfl, ?_⟩
    unfold Later
    go_wp2
    simp only [Exit.jump]
    refine bodyPost_ret (results_tmp4 rfl _ _ _) rfl ?_
    exact ⟨_, rfl, World.ownsRow_nil _ _ _ _, Below.refl _ _⟩
  by_cases hc2 : c = 2
  · subst hc2
    have hn2 : n = 2 := by omega
    subst hn2
    have hd : xs.drop 2 = [] := List.drop_eq_nil_of_le (by omega)
    have HT : Hid (took xs = (0, [], 0, 10)) := by
      unfold Hid took
      rw [if_neg (by omega), if_neg (by simp only [h1, ne_eq, not_true, not_false_iff]), if_neg (by omega), hd, if_pos (by simp [take])]
      rfl
    have HD : Hid (take 0 0 ([] : List Int) = (0, 0, 10)) := rfl
    clear h1 hy hd
    go_enter Tryd.func62, Tryd.ntmps62
    go_wp2_with fail
    refine scope_on 0 rfl ?_
    go_wp2_with fail
    refine (Var.take_any (some ⟨b, o, none⟩) 0 0 w.heap.size [] w Row.none_ (fun x hx => by simp at hx)).mono ?_
    rintro e1 w1 ⟨rfl, rfl⟩
    rw [HD.out]
    go_wp2
    go_step3
    refine ⟨rfl, ?_⟩
    unfold Later
    go_wp2
    simp only [Exit.jump]
    refine bodyPost_ret (results_tmp4 rfl _ _ _) rfl ?_
    rw [HT.out]
    exact ⟨_, rfl, World.ownsRow_nil _ _ _ _, Below.refl _ _⟩
  have HR2 : Hid (Row .u8 w w.heap.size (some ⟨b, o + 2, none⟩) (n - 2) (xs.drop 2)) := by
    have := row_sub HR.out (lo := 2) (m := n - 2) (by omega)
    rwa [List.take_of_length_le (by simp; omega)] at this
  obtain ⟨cnt, sz, er, HK⟩ : ∃ cnt sz er, Hid (take 0 0 (xs.drop 2) = (cnt, sz, er)) := ⟨_, _, _, Lib.hid rfl⟩
  have hsz : er = 0 → sz ≤ n - 2 ∧ 0 < sz := by
    rintro rfl
    obtain ⟨m, _, _, h3, h4, _⟩ := put_take (xs.drop 2) 0 0 (HX.out.drop 2) (by rw [HK.out])
    rw [HK.out] at h3 h4
    simp at h3 h4
    omega
  by_cases hgood : er = 0 ∧ ¬ 1048576 < cnt ∧ ¬ n < 2 + sz + cnt + 4
  · obtain ⟨rfl, hcnt, hend⟩ := hgood
    exact take_good b o n c sz cnt (2 + sz) (2 + sz + cnt) xs w HR.out HX.out hn hcap hc' h1 hc2 HK.out (hsz rfl) hcnt rfl rfl (by omega)
  go_enter Tryd.func62, Tryd.ntmps62
  go_wp2_with fail
  refine scope_on 0 rfl ?_
  go_wp2_with fail
  refine (Var.take_any (some ⟨b, o + 2, none⟩) (n - 2) (c - 2) w.heap.size (xs.drop 2) w HR2.out (HX.out.drop 2)).mono ?_
  rintro e1 w1 ⟨rfl, rfl⟩
  rw [HK.out]
  by_cases her : er ≠ 0
  · have HT : Hid (took xs = (0, [], 0, er)) := by
      unfold Hid took
      rw [if_neg (by omega), if_neg (by simp only [h1, ne_eq, not_true, not_false_iff]), if_neg (by omega), HK.out, if_pos her]
    have hb1 : ((er : Int) == 0) = false := beq_eq_false_iff_ne.2 (by omega)
    have hb2 : ((er : Int) != 0) = true := by rw [bne, hb1]; rfl
    clear h1 hy her
    go_wp2
    go_step3
    refine ⟨rfl, ?_⟩
    unfold Later
    go_wp2
    simp only [Exit.jump]
    refine bodyPost_ret (results_tmp4 rfl _ _ _) rfl ?_
    rw [HT.out]
    exact ⟨_, rfl, World.ownsRow_nil _ _ _ _, Below.refl _ _⟩
  obtain rfl : er = 0 := by omega
  clear her
  have hsz := hsz rfl
  by_cases hcnt : 1048576 < cnt
  · have HT : Hid (took xs = (0, [], 0, 3)) := by
      unfold Hid took
      rw [if_neg (by omega), if_neg (by simp only [h1, ne_eq, not_true, not_false_iff]), if_neg (by omega), HK.out, if_neg (by simp), if_pos hcnt]
    have hd1 : (1048576 : Int) < (cnt : Int) := by omega
    clear h1 hy hcnt
    go_wp2
    go_step3
    refine ⟨rfl, ?_⟩
    unfold Later
    go_wp2
    simp only [Exit.jump]
    refine bodyPost_ret (results_tmp4 rfl _ _ _) rfl ?_
    rw [HT.out]
    exact ⟨_, rfl, World.ownsRow_nil _ _ _ _, Below.refl _ _⟩
  have hto : Hid (to_ xs = 2 + sz + cnt) := by unfold Hid to_ from_; rw [HK.out]
  have hfrom : Hid (from_ xs = 2 + sz) := by unfold Hid from_; rw [HK.out]
  by_cases hend : n < 2 + sz + cnt + 4
  · have HT : Hid (took xs = (0, [], 0, 10)) := by
      unfold Hid took
      rw [if_neg (by omega), if_neg (by simp only [h1, ne_eq, not_true, not_false_iff]), if_neg (by omega), HK.out, if_neg (by simp), if_neg hcnt, hto.out, if_pos (by omega)]
    clear h1 hy
    go_wp2
    go_step3
    refine ⟨rfl, ?_⟩
    unfold Later
    go_wp2
    simp only [Exit.jump]
    refine bodyPost_ret (results_tmp4 rfl _ _ _) rfl ?_
    rw [HT.out]
    exact ⟨_, rfl, World.ownsRow_nil _ _ _ _, Below.refl _ _⟩
  exact absurd ⟨rfl, hcnt, hend⟩ hgood
end Go.Proofs.YtmkdbpdfonpfdaaDoor.Frm

/- What the reference's Take of layer 4 returns, as a contract over the program. -/
namespace Go.Proofs.YtmkdbpdfonpfdaaDoor.Frm
open Go.RowKit Var Crc Slc
attribute [local go_sem ↓] Go.wp_at_zero Go.wp_at_succ

/-- A slice's pointer and capacity fit. -/
def Fit (A : Option Addr) (n c : Nat) : Prop := (A = none → c = 0) ∧ n ≤ c
theorem Fit.none_ : Fit none 0 0 := ⟨fun _ => rfl, Nat.le_refl _⟩

/-- What the reference's Take returns: the content is a part of what came in. -/
def RTakes (t : Int × List Int × Nat × Nat) (w : World) (e : Ending) (w' : World) : Prop :=
  ∃ A c, e = .returned (.tuple #[.int .u8 t.1, .slice A t.2.1.length c, .int .i64 (t.2.2.1 : Int), .int .i64 (t.2.2.2 : Int)]) ∧ Row .u8 w' w.heap.size A t.2.1.length t.2.1 ∧ Below w.heap.size w w' ∧ Fit A t.2.1.length c

set_option maxHeartbeats 3200000 in
set_option maxRecDepth 100000 in
theorem reftake_good (b o n c sz cnt f t al : Nat) (xs : List Int) (w : World) (hr : Row .u8 w w.heap.size (some ⟨b, o, none⟩) n xs) (hx : Byt xs) (hn : n ≤ 4398046511104) (hcap : n ≤ c) (hc' : c ≤ 9223372036854775807)
    (h1 : xs.getD 0 0 = 199) (hc2 : ¬ c = 2) (hk : take 0 0 (xs.drop 2) = (cnt, sz, 0)) (hsz : sz ≤ n - 2 ∧ 0 < sz) (hcnt : ¬ 1048576 < cnt) (hf : f = 2 + sz) (ht : t = f + cnt) (hal : al = t + 4) (htn : al ≤ n) :
    Calls Tryd.prog 67 #[.slice (some ⟨b, o, none⟩) n c] w (RTakes (took xs) w) := by
  have HR := Lib.hid hr
  have HX := Lib.hid hx
  have HK := Lib.hid hk
  have hlen := hr.len
  have hcell0 := (hr.cell_at (j := 0) (by omega))
  have hcell1 := (hr.cell_at (j := 1) (by omega))
  obtain ⟨_, _, e, hbw, hcell0⟩ := hcell0
  injection e with e
  injection e with e1 e2
  subst e1; subst e2
  obtain ⟨_, _, e, _, hcell1⟩ := hcell1
  injection e with e
  injection e with e1 e2
  subst e1; subst e2
  rw [Nat.add_zero, h1] at hcell0
  have hnb : ((n : Int) == 0) = false := beq_eq_false_iff_ne.2 (by omega)
  have hto : Hid (to_ xs = t) := by unfold Hid to_ from_; rw [hk]; simp only; omega
  have hfrom : Hid (from_ xs = f) := by unfold Hid from_; rw [hk]; simp only; omega
  have HR2 : Hid (Row .u8 w w.heap.size (some ⟨b, o + 2, none⟩) (n - 2) (xs.drop 2)) := by
    have := row_sub HR.out (lo := 2) (m := n - 2) (by omega)
    rwa [List.take_of_length_le (by simp; omega)] at this
  have HCH : Hid (frame (xs.getD 1 0) ((xs.drop f).take cnt) = xs.take al ↔ (xs.drop t).take 4 = byts 4 (sum (xs.take t))) := by
    have := check HX.out h1 (by omega) (by rw [hk]) (by rw [hto.out]; omega)
    rw [hto.out, hfrom.out, hk] at this
    rw [hal]
    exact this
  have HT : Hid (took xs = if ¬ frame (xs.getD 1 0) ((xs.drop f).take cnt) = xs.take al then (0, [], 0, 12) else (xs.getD 1 0, (xs.drop f).take cnt, al, 0)) := by
    unfold Hid took
    rw [if_neg (by omega), if_neg (by simp only [h1, ne_eq, not_true, not_false_iff]), if_neg (by omega), HK.out, if_neg (by simp), if_neg hcnt, hto.out, if_neg (by omega), hfrom.out, ← hal]
    by_cases h : (xs.drop t).take 4 = byts 4 (sum (xs.take t))
    · rw [if_neg (fun h' => h' h), if_neg (fun h' => h' (HCH.out.2 h))]
    · rw [if_pos h, if_pos (fun h' => h (HCH.out.1 h'))]
  have HRA : Hid (Row .u8 w w.heap.size (some ⟨b, o, none⟩) al (xs.take al)) := by
    have := row_sub HR.out (lo := 0) (m := al) (by omega)
    rwa [Nat.add_zero, List.drop_zero] at this
  have HRC : Hid (Row .u8 w w.heap.size (some ⟨b, o + f, none⟩) (t - f) ((xs.drop f).take cnt)) := by
    unfold Hid
    rw [show t - f = cnt by omega]
    exact row_sub HR.out (by omega)
  have HCL : Hid (((xs.drop f).take cnt).length = t - f) := HRC.out.len
  have hy := HX.out.getD 1
  have hcs : t - f ≤ 1048576 := by omega
  have hsum1 : IntKind.i64.wrap (2 + (sz : Int)) = (f : Int) := by rw [IntWalk.i64_in _ ⟨by omega, by omega⟩]; omega
  have hsum2 : IntKind.i64.wrap ((f : Int) + (cnt : Int)) = (t : Int) := by rw [IntWalk.i64_in _ ⟨by omega, by omega⟩]; omega
  have hconv : IntKind.i64.wrap (cnt : Int) = (cnt : Int) := IntWalk.i64_in _ ⟨by omega, by omega⟩
  have hw4 : IntKind.i64.wrap ((t : Int) + 4) = (al : Int) := by rw [IntWalk.i64_in _ ⟨by omega, by omega⟩]; omega
  have hw5 : IntKind.i64.wrap ((al : Int) - 4) = (t : Int) := by rw [IntWalk.i64_in _ ⟨by omega, by omega⟩]; omega
  have hcf : ¬ c = f := by omega
  have i1 : (0 : Int) ≤ (al : Int) := by omega
  have i2 : (t : Int) ≤ (c : Int) := by omega
  have i3 : (al : Int) ≤ (c : Int) := by omega
  have i5 : (f : Int) ≤ (t : Int) := by omega
  have i6 : (0 : Int) ≤ (f : Int) := by omega
  have i8 : (2 : Int) ≤ (n : Int) := by omega
  have i9 : (1 : Int) < (n : Int) := by omega
  have d1 : decide ((n : Int) < 2) = false := by simp; omega
  have d2 : decide ((1048576 : Int) < (cnt : Int)) = false := by simp; omega
  have d3 : decide ((n : Int) < (al : Int)) = false := by simp; omega
  have hale : al ≤ 4398046511104 := by omega
  have HFL : Hid ((frame (xs.getD 1 0) ((xs.drop f).take cnt)).length ≤ 4398046511104) := by
    unfold Hid
    have := put_len10 (n := ((xs.drop f).take cnt).length) (by rw [HCL.out]; omega)
    rw [frame_len, HCL.out]
    rw [HCL.out] at this
    omega
  have d4 : ¬ n < al := by omega
  clear hr hx hk h1 hf ht hsz hcnt hlen hal HCH
  go_enter Tryd.func67, Tryd.ntmps67
  go_wp2_with fail
  refine (Var.reftake_any (some ⟨b, o + 2, none⟩) (n - 2) (c - 2) w.heap.size (xs.drop 2) w HR2.out (HX.out.drop 2)).mono ?_
  rintro e1 w1 ⟨rfl, rfl⟩
  rw [HK.out]
  go_wp2_with fail
  generalize xs.getD 1 0 = y at *
  have HRC5 := Lib.hid (HRC.out).drew
  have m2 : w.drew.cell? ⟨b, o + 1, none⟩ = some (.int .u8 y) := hcell1
  clear hsum1 hsum2 hconv d1 d2 d3 hnb hcell0 hto hfrom HR2 HK hw4 hw5
  go_region_held3 (fun wx => wx.cell? ⟨b, o + 1, none⟩ = some (.int .u8 y)) (first | exact hcell1 | exact m3 | exact m4) (first
    | (go_at_call 30; refine (refput_any y hy (some ⟨b, o + f, none⟩) (t - f) (c - f) ((xs.drop f).take cnt) _ HRC5.out (fun h => by cases h) ((HX.out.drop f).take cnt) hcs).mono ?_; rintro r1 w5 ⟨v5, rfl, hown5, hb5⟩; obtain ⟨A5, c5, rfl, -, -⟩ := own_slice hown5; have m3 := (hb5.cell (p := ⟨b, o + 1, none⟩) hbw).trans m2; have HO5 := Lib.hid hown5; have HB5 := Lib.hid hb5; clear hown5 hb5)
    | (go_at_call 11; refine (same_any A5 (some ⟨b, o, none⟩) (frame y ((xs.drop f).take cnt)).length c5 al c _ w.heap.size (frame y ((xs.drop f).take cnt)) (xs.take al) _ HFL.out hale (Row.of_own HO5.out) (HRA.out.drew.below HB5.out)).mono ?_; rintro r2 w6 ⟨rfl, q, rfl⟩; have m4 : (w5.drewN q).cell? ⟨b, o + 1, none⟩ = some (.int .u8 y) := m3))
  have HBW : Hid (Below w.heap.size w (w5.drewN q)) := by
    have h := (Below.refl w.heap.size w).drew.trans HB5.out
    exact ⟨h.os, h.tape, h.output, h.size, h.block⟩
  have HRR := Lib.hid (HRC.out.below HBW.out)
  clear m2 m3 HRC5 HO5 HB5 HFL
  generalize w5.drewN q = w8 at *
  by_cases heq : frame y ((xs.drop f).take cnt) = xs.take al
  · have hdec : decide (frame y ((xs.drop f).take cnt) = xs.take al) = true := decide_eq_true heq
    have HT' := Lib.hid (HT.out.trans (if_neg (fun h => h heq)))
    rw [hdec]
    clear HT heq hdec
    go_wp2
    refine bodyPost_ret (results_tmp4 rfl _ _ _) rfl ?_
    rw [HT'.out]
    refine ⟨some ⟨b, o + f, none⟩, c - f, ?_, ?_, HBW.out, ⟨(fun h => nomatch h), ?_⟩⟩
    · simp only
      rw [HCL.out]
      rfl
    · simp only
      rw [HCL.out]
      exact HRR.out
    · simp only
      rw [HCL.out]
      omega
  · have hdec : decide (frame y ((xs.drop f).take cnt) = xs.take al) = false := decide_eq_false heq
    have HT' := Lib.hid (HT.out.trans (if_pos heq))
    rw [hdec]
    clear HT heq hdec
    go_wp2
    refine bodyPost_ret (results_tmp4 rfl _ _ _) rfl ?_
    rw [HT'.out]
    exact ⟨none, 0, rfl, Row.none_, HBW.out, Fit.none_⟩
end Go.Proofs.YtmkdbpdfonpfdaaDoor.Frm

/- What the reference's Take of layer 4 returns for any bytes, and both Wholes, as contracts over the program. -/
namespace Go.Proofs.YtmkdbpdfonpfdaaDoor.Frm
open Go.RowKit Var Crc Slc

set_option maxHeartbeats 1600000 in
set_option maxRecDepth 100000 in
theorem reftake_any (A : Option Addr) (n c : Nat) (xs : List Int) (w : World) (hr : Row .u8 w w.heap.size A n xs) (hx : Byt xs) (hn : n ≤ 4398046511104) (hcap : n ≤ c) (hc : c ≤ maxLen) :
    Calls Tryd.prog 67 #[.slice A n c] w (RTakes (took xs) w) := by
  have HR := Lib.hid hr
  have HX := Lib.hid hx
  have hlen := hr.len
  have hc' : c ≤ 9223372036854775807 := by unfold maxLen at hc; omega
  clear hr hx hc
  by_cases h0 : n = 0
  · subst h0
    have HT : Hid (took xs = (0, [], 0, 10)) := by unfold Hid took; rw [if_pos hlen]
    go_enter Tryd.func67, Tryd.ntmps67
    go_wp2
    refine bodyPost_ret (results_tmp4 rfl _ _ _) rfl ?_
    rw [HT.out]
    exact ⟨none, 0, rfl, Row.none_, Below.refl _ _, Fit.none_⟩
  obtain ⟨b, o, rfl, hbw, hcell0⟩ := HR.out.cell_at (show 0 < n by omega)
  rw [Nat.add_zero] at hcell0
  have hnb : ((n : Int) == 0) = false := beq_eq_false_iff_ne.2 (by omega)
  have hy := HX.out.getD 0
  by_cases h1 : ¬ xs.getD 0 0 = 199
  · have HT : Hid (took xs = (0, [], 0, 11)) := by unfold Hid took; rw [if_neg (by omega), if_pos h1]
    have hb1 : (xs.getD 0 0 == 199) = false := beq_eq_false_iff_ne.2 h1
    have hb2 : (xs.getD 0 0 != 199) = true := by rw [bne, hb1]; rfl
    generalize xs.getD 0 0 = y at *
    clear h1
    go_enter Tryd.func67, Tryd.ntmps67
    go_wp2
    refine bodyPost_ret (results_tmp4 rfl _ _ _) rfl ?_
    rw [HT.out]
    exact ⟨none, 0, rfl, Row.none_, Below.refl _ _, Fit.none_⟩
  have h1 : xs.getD 0 0 = 199 := Decidable.not_not.1 h1
  rw [h1] at hcell0
  by_cases h2 : n < 2
  · have HT : Hid (took xs = (0, [], 0, 10)) := by unfold Hid took; rw [if_neg (by omega), if_neg (by simp only [h1, ne_eq, not_true, not_false_iff]), if_pos (by omega)]
    clear h1 hy
    go_enter Tryd.func67, Tryd.ntmps67
    go_wp2
    refine bodyPost_ret (results_tmp4 rfl _ _ _) rfl ?_
    rw [HT.out]
    exact ⟨none, 0, rfl, Row.none_, Below.refl _ _, Fit.none_⟩
  by_cases hc2 : c = 2
  · subst hc2
    have hn2 : n = 2 := by omega
    subst hn2
    have hd : xs.drop 2 = [] := List.drop_eq_nil_of_le (by omega)
    have HT : Hid (took xs = (0, [], 0, 10)) := by
      unfold Hid took
      rw [if_neg (by omega), if_neg (by simp only [h1, ne_eq, not_true, not_false_iff]), if_neg (by omega), hd, if_pos (by simp [take])]
      rfl
    have HD : Hid (take 0 0 ([] : List Int) = (0, 0, 10)) := rfl
    clear h1 hy hd
    go_enter Tryd.func67, Tryd.ntmps67
    go_wp2_with fail
    refine (Var.reftake_any (some ⟨b, o, none⟩) 0 0 w.heap.size [] w Row.none_ (fun x hx => by simp at hx)).mono ?_
    rintro e1 w1 ⟨rfl, rfl⟩
    rw [HD.out]
    go_wp2
    refine bodyPost_ret (results_tmp4 rfl _ _ _) rfl ?_
    rw [HT.out]
    exact ⟨none, 0, rfl, Row.none_, Below.refl _ _, Fit.none_⟩
  have HR2 : Hid (Row .u8 w w.heap.size (some ⟨b, o + 2, none⟩) (n - 2) (xs.drop 2)) := by
    have := row_sub HR.out (lo := 2) (m := n - 2) (by omega)
    rwa [List.take_of_length_le (by simp; omega)] at this
  obtain ⟨cnt, sz, er, HK⟩ : ∃ cnt sz er, Hid (take 0 0 (xs.drop 2) = (cnt, sz, er)) := ⟨_, _, _, Lib.hid rfl⟩
  have hsz : er = 0 → sz ≤ n - 2 ∧ 0 < sz := by
    rintro rfl
    obtain ⟨m, _, _, h3, h4, _⟩ := put_take (xs.drop 2) 0 0 (HX.out.drop 2) (by rw [HK.out])
    rw [HK.out] at h3 h4
    simp at h3 h4
    omega
  by_cases hgood : er = 0 ∧ ¬ 1048576 < cnt ∧ ¬ n < 2 + sz + cnt + 4
  · obtain ⟨rfl, hcnt, hend⟩ := hgood
    exact reftake_good b o n c sz cnt (2 + sz) (2 + sz + cnt) (2 + sz + cnt + 4) xs w HR.out HX.out hn hcap hc' h1 hc2 HK.out (hsz rfl) hcnt rfl rfl rfl (by omega)
  go_enter Tryd.func67, Tryd.ntmps67
  go_wp2_with fail
  refine (Var.reftake_any (some ⟨b, o + 2, none⟩) (n - 2) (c - 2) w.heap.size (xs.drop 2) w HR2.out (HX.out.drop 2)).mono ?_
  rintro e1 w1 ⟨rfl, rfl⟩
  rw [HK.out]
  by_cases her : er ≠ 0
  · have HT : Hid (took xs = (0, [], 0, er)) := by
      unfold Hid took
      rw [if_neg (by omega), if_neg (by simp only [h1, ne_eq, not_true, not_false_iff]), if_neg (by omega), HK.out, if_pos her]
    have hb1 : ((er : Int) == 0) = false := beq_eq_false_iff_ne.2 (by omega)
    have hb2 : ((er : Int) != 0) = true := by rw [bne, hb1]; rfl
    clear h1 hy her
    go_wp2
    refine bodyPost_ret (results_tmp4 rfl _ _ _) rfl ?_
    rw [HT.out]
    exact ⟨none, 0, rfl, Row.none_, Below.refl _ _, Fit.none_⟩
  obtain rfl : er = 0 := by omega
  clear her
  have hsz := hsz rfl
  by_cases hcnt : 1048576 < cnt
  · have HT : Hid (took xs = (0, [], 0, 3)) := by
      unfold Hid took
      rw [if_neg (by omega), if_neg (by simp only [h1, ne_eq, not_true, not_false_iff]), if_neg (by omega), HK.out, if_neg (by simp), if_pos hcnt]
    have hd1 : (1048576 : Int) < (cnt : Int) := by omega
    clear h1 hy hcnt
    go_wp2
    refine bodyPost_ret (results_tmp4 rfl _ _ _) rfl ?_
    rw [HT.out]
    exact ⟨none, 0, rfl, Row.none_, Below.refl _ _, Fit.none_⟩
  have hto : Hid (to_ xs = 2 + sz + cnt) := by unfold Hid to_ from_; rw [HK.out]
  have hfrom : Hid (from_ xs = 2 + sz) := by unfold Hid from_; rw [HK.out]
  by_cases hend : n < 2 + sz + cnt + 4
  · have HT : Hid (took xs = (0, [], 0, 10)) := by
      unfold Hid took
      rw [if_neg (by omega), if_neg (by simp only [h1, ne_eq, not_true, not_false_iff]), if_neg (by omega), HK.out, if_neg (by simp), if_neg hcnt, hto.out, if_pos (by omega)]
    clear h1 hy
    go_wp2
    refine bodyPost_ret (results_tmp4 rfl _ _ _) rfl ?_
    rw [HT.out]
    exact ⟨none, 0, rfl, Row.none_, Below.refl _ _, Fit.none_⟩
  exact absurd ⟨rfl, hcnt, hend⟩ hgood

/-- What Whole returns. -/
def Wholes (t : List Int × Nat) (w : World) (e : Ending) (w' : World) : Prop :=
  ∃ v, e = .returned (.tuple #[v, .int .i64 (t.2 : Int)]) ∧ w'.ownsRow w.heap.size 5 1 v t.1.length (t.1.map (Value.int .u8)) ∧ Below w.heap.size w w'
def RWholes (t : List Int × Nat) (w : World) (e : Ending) (w' : World) : Prop :=
  ∃ A c, e = .returned (.tuple #[.slice A t.1.length c, .int .i64 (t.2 : Int)]) ∧ Row .u8 w' w.heap.size A t.1.length t.1 ∧ Below w.heap.size w w' ∧ Fit A t.1.length c

theorem wholly_of {k k' : Int} {b ys : List Int} {u er : Nat} (h : took b = (k', ys, u, er)) : wholly k b = if er ≠ 0 then ([], er) else if k' ≠ k then ([], 11) else if u < b.length then ([], 13) else (ys, 0) := by
  unfold wholly
  rw [h]

set_option maxHeartbeats 800000 in
set_option maxRecDepth 100000 in
theorem whole_any (k : Int) (A : Option Addr) (n c : Nat) (xs : List Int) (w : World) (hr : Row .u8 w w.heap.size A n xs) (hnil : A = none → c = 0) (hx : Byt xs) (hn : n ≤ 4398046511104) (hcap : n ≤ c) (hc : c ≤ maxLen) :
    Calls Tryd.prog 38 #[.int .u8 k, .slice A n c] w (Wholes (wholly k xs) w) := by
  have hlen := hr.len
  have H := Lib.hid (take_any A n c xs w hr hnil hx hn hcap hc)
  obtain ⟨k', ys, u, er, HK⟩ : ∃ k' ys u er, Hid (took xs = (k', ys, u, er)) := ⟨_, _, _, _, Lib.hid rfl⟩
  have HW := Lib.hid (wholly_of (k := k) HK.out)
  rw [HK.out] at H
  rw [hlen] at HW
  clear hr hx
  go_enter Tryd.func38, Tryd.ntmps38
  go_wp2_with fail
  refine H.out.mono ?_
  rintro e1 w1 ⟨v1, rfl, hown1, hb1⟩
  have HO1 := Lib.hid hown1
  have HB1 := Lib.hid hb1
  clear hown1 hb1 H hnil
  by_cases her : er ≠ 0
  · have HT := Lib.hid (HW.out.trans (if_pos her))
    have hb1 : ((er : Int) == 0) = false := beq_eq_false_iff_ne.2 (by omega)
    have hb2 : ((er : Int) != 0) = true := by rw [bne, hb1]; rfl
    clear her HW
    go_wp2
    go_ret2
    rw [HT.out]
    exact ⟨_, rfl, World.ownsRow_nil _ _ _ _, HB1.out⟩
  obtain rfl : er = 0 := by omega
  have HW := Lib.hid (HW.out.trans (if_neg her))
  clear her
  by_cases hk : k' ≠ k
  · have HT := Lib.hid (HW.out.trans (if_pos hk))
    have hb1 : (k' == k) = false := beq_eq_false_iff_ne.2 hk
    have hb2 : (k' != k) = true := by rw [bne, hb1]; rfl
    clear hk HW
    go_wp2
    go_ret2
    rw [HT.out]
    exact ⟨_, rfl, World.ownsRow_nil _ _ _ _, HB1.out⟩
  obtain rfl : k' = k := Decidable.not_not.1 hk
  have HW := Lib.hid (HW.out.trans (if_neg hk))
  clear hk
  by_cases hu : u < n
  · have HT := Lib.hid (HW.out.trans (if_pos hu))
    have hu' : (u : Int) < (n : Int) := by omega
    clear HW
    go_wp2
    go_ret2
    rw [HT.out]
    exact ⟨_, rfl, World.ownsRow_nil _ _ _ _, HB1.out⟩
  · have HT := Lib.hid (HW.out.trans (if_neg hu))
    have hu' : ¬ (u : Int) < (n : Int) := by omega
    clear HW
    go_wp2
    go_ret2
    rw [HT.out]
    exact ⟨_, rfl, HO1.out, HB1.out⟩

set_option maxHeartbeats 800000 in
set_option maxRecDepth 100000 in
theorem refwhole_any (k : Int) (A : Option Addr) (n c : Nat) (xs : List Int) (w : World) (hr : Row .u8 w w.heap.size A n xs) (hx : Byt xs) (hn : n ≤ 4398046511104) (hcap : n ≤ c) (hc : c ≤ maxLen) :
    Calls Tryd.prog 40 #[.int .u8 k, .slice A n c] w (RWholes (wholly k xs) w) := by
  have hlen := hr.len
  have H := Lib.hid (reftake_any A n c xs w hr hx hn hcap hc)
  obtain ⟨k', ys, u, er, HK⟩ : ∃ k' ys u er, Hid (took xs = (k', ys, u, er)) := ⟨_, _, _, _, Lib.hid rfl⟩
  have HW := Lib.hid (wholly_of (k := k) HK.out)
  rw [HK.out] at H
  rw [hlen] at HW
  clear hr hx
  go_enter Tryd.func40, Tryd.ntmps40
  go_wp2_with fail
  refine H.out.mono ?_
  rintro e1 w1 ⟨A1, c1, rfl, hrow1, hb1, hf1⟩
  have HO1 := Lib.hid hrow1
  have HB1 := Lib.hid hb1
  have HF1 := Lib.hid hf1
  clear hrow1 hb1 hf1 H
  by_cases her : er ≠ 0
  · have HT := Lib.hid (HW.out.trans (if_pos her))
    have hb1 : ((er : Int) == 0) = false := beq_eq_false_iff_ne.2 (by omega)
    have hb2 : ((er : Int) != 0) = true := by rw [bne, hb1]; rfl
    clear her HW
    go_wp2
    go_ret2
    rw [HT.out]
    exact ⟨none, 0, rfl, Row.none_, HB1.out, Fit.none_⟩
  obtain rfl : er = 0 := by omega
  have HW := Lib.hid (HW.out.trans (if_neg her))
  clear her
  by_cases hk : k' ≠ k
  · have HT := Lib.hid (HW.out.trans (if_pos hk))
    have hb1 : (k' == k) = false := beq_eq_false_iff_ne.2 hk
    have hb2 : (k' != k) = true := by rw [bne, hb1]; rfl
    clear hk HW
    go_wp2
    go_ret2
    rw [HT.out]
    exact ⟨none, 0, rfl, Row.none_, HB1.out, Fit.none_⟩
  obtain rfl : k' = k := Decidable.not_not.1 hk
  have HW := Lib.hid (HW.out.trans (if_neg hk))
  clear hk
  by_cases hu : u < n
  · have HT := Lib.hid (HW.out.trans (if_pos hu))
    have hu' : (u : Int) < (n : Int) := by omega
    clear HW
    go_wp2
    go_ret2
    rw [HT.out]
    exact ⟨none, 0, rfl, Row.none_, HB1.out, Fit.none_⟩
  · have HT := Lib.hid (HW.out.trans (if_neg hu))
    have hu' : ¬ (u : Int) < (n : Int) := by omega
    clear HW
    go_wp2
    go_ret2
    rw [HT.out]
    exact ⟨A1, c1, rfl, HO1.out, HB1.out, HF1.out⟩
end Go.Proofs.YtmkdbpdfonpfdaaDoor.Frm

/- Layer 10 (token): the reference's Open, as a contract. -/
namespace Go.Proofs.YtmkdbpdfonpfdaaDoor.Tok
open Go.RowKit Var Fld Frm Sha Hmc Rg

/-- While the reference reads a token's fields: s what is left and what was wrong. -/
structure St (w0 : World) (g N : Nat) (A : Option Addr) (n c : Nat) (C : List Int) (s : List Int × Nat) (w' : World) : Prop where
  rd : ∃ at_, Rfr w' g N A n c C at_ s.2 ∧ C.drop at_ = s.1
  rs : w'.heap[w0.heap.size]? = some (.cells T.zero.cells 26 (0, 0))
  bel : Below w0.heap.size w0 w'
section
variable {w0 w w' : World} {g N n c : Nat} {A : Option Addr} {C : List Int} {s s' : List Int × Nat}
theorem St.only {M : Nat → Prop} (h : St w0 g N A n c C s w) (ho : Only M w w') (hg : ¬ M g) (hN : ∀ k, k < N → ¬ M k) (h0 : ∀ k, k ≤ w0.heap.size → ¬ M k) : St w0 g N A n c C s w' := by
  obtain ⟨a, h1, h2⟩ := h.rd
  exact ⟨⟨a, h1.only ho hg hN, h2⟩, ho.at h.rs (h0 _ (Nat.le_refl _)), h.bel.trans (ho.below h.bel.size (fun k hk => by
    rcases Nat.lt_or_ge k w0.heap.size with h3 | h3
    · exact absurd hk (h0 k (Nat.le_of_lt h3))
    · exact h3))⟩
theorem St.step (h : St w0 g N A n c C s w) (hg : w0.heap.size < g) (hr : ∃ at', Rfr w' g N A n c C at' s'.2 ∧ C.drop at' = s'.1) (ho : Only (fun k => k = g) w w') : St w0 g N A n c C s' w' :=
  ⟨hr, ho.at h.rs (by omega), h.bel.trans (ho.below h.bel.size (fun k hk => by omega))⟩
end

/-- The next number. -/
theorem num_next {w0 w : World} {g N n c : Nat} {A : Option Addr} {C : List Int} {s : List Int × Nat} (h : St w0 g N A n c C s w) (hg : w0.heap.size < g) (most : Int) (h1 : -9223372036854775808 ≤ most) (h2 : most ≤ 9223372036854775807) :
    Calls Tryd.prog 42 #[.pointer (some ⟨g, 0, none⟩), .int .i64 most] w fun r w' => r = .returned (.int .i64 (rv1 s most)) ∧ St w0 g N A n c C (rd1 s most) w' ∧ Only (fun k => k = g) w w' := by
  obtain ⟨a, h3, h4⟩ := h.rd
  refine (refnum_any g N n c a s.2 A C most w h3 h1 h2).mono ?_
  rintro r w' ⟨rfl, ⟨at1, hf, hd⟩, ho⟩
  rw [h4] at hf hd ⊢
  exact ⟨rfl, h.step hg ⟨at1, hf, hd⟩ ho, ho⟩
theorem bytes_next {w0 w : World} {g N n c : Nat} {A : Option Addr} {C : List Int} {s : List Int × Nat} (h : St w0 g N A n c C s w) (hg : w0.heap.size < g) :
    Calls Tryd.prog 43 #[.pointer (some ⟨g, 0, none⟩), .int .i64 32] w fun r w' => ∃ v, r = .returned v ∧ w'.ownsRow w.heap.size 5 1 v (vals s.2 (nxl s.1 32)).length ((vals s.2 (nxl s.1 32)).map (Value.int .u8)) ∧
      (∃ at', Rfr w' g N A n c C at' (after s.1 s.2 (nxl s.1 32).2.1 (nxl s.1 32).2.2).2 ∧ ((after s.1 s.2 (nxl s.1 32).2.1 (nxl s.1 32).2.2).2 = 0 → C.drop at' = (after s.1 s.2 (nxl s.1 32).2.1 (nxl s.1 32).2.2).1)) ∧ w'.heap[w0.heap.size]? = some (.cells T.zero.cells 26 (0, 0)) ∧ Below w0.heap.size w0 w' ∧ Only (fun k => k = g) w w' := by
  obtain ⟨a, h3, h4⟩ := h.rd
  refine (reflist_any g N n c a s.2 A C 32 w h3 (by omega) (by omega)).mono ?_
  rintro r w' ⟨v, rfl, hown, ⟨at1, hf, hd⟩, ho⟩
  rw [h4] at hown hf hd
  exact ⟨v, rfl, hown, ⟨at1, hf, hd⟩, ho.at h.rs (by omega), h.bel.trans (ho.below h.bel.size (fun k hk => by omega)), ho⟩
theorem done_next {w : World} {g N n c : Nat} {A : Option Addr} {C : List Int} {s : List Int × Nat} {at_ : Nat} (h : Rfr w g N A n c C at_ s.2) (hd : s.2 = 0 → C.drop at_ = s.1) :
    Calls Tryd.prog 44 #[.pointer (some ⟨g, 0, none⟩)] w fun r w' => r = .returned (.int .i64 (done s.1 s.2 : Int)) ∧ Like w w' := by
  refine (refdone_any g N n c at_ s.2 A C w h).mono ?_
  rintro r w' ⟨rfl, hl⟩
  have e : done (C.drop at_) s.2 = done s.1 s.2 := by
    by_cases h0 : s.2 = 0
    · rw [hd h0]
    · unfold done
      rw [if_pos h0, if_pos h0]
  exact ⟨by rw [e], hl⟩
end Go.Proofs.YtmkdbpdfonpfdaaDoor.Tok
