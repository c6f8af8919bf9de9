/- What crc.Sum and crc.Bytes, and the reference's Sum and Bytes return, as contracts over the program. -/
import Derived.Test.YtjdhedjlilmolaaProg
import Derived.Test.YtjdhedjlilmolaaBase
import Derived.Test.YtjdhedjlilmolaaCrcM
import Derived.Test.YtjdhedjlilmolaaCrcW
import Derived.WalkKit
import Derived.KernelRfl
import Derived.WalkMore
namespace Go.Proofs.Ytjdhedjlilmolaa.Crc
open Go.RowKit

theorem info_u8 : (Try.prog.info? 5).map (fun i => (i.zero, i.size, i.bytes)) = some (some (.int .u8 0), 1, 1) := by kernel_rfl

set_option maxHeartbeats 400000 in
set_option maxRecDepth 100000 in
theorem sum_any (A : Option Addr) (n c B : Nat) (xs : List Int) (w : World) (hr : Row .u8 w B A n xs) (hx : Bytes xs) (hB : B ≤ w.heap.size) (hn : n ≤ 4398046511104) :
    Calls Try.prog 26 #[.slice A n c] w fun e w' => e = .returned (.int .u32 ((sum xs : Nat) : Int)) ∧ Below w.heap.size w w' := by
  have HR := Lib.hid hr
  have HX := Lib.hid hx
  clear hr hx
  go_enter Try.func26, Try.ntmps26
  go_wp2_with fail
  refine (more_any 0 (by omega) A n c B xs _ HR.out HX.out hB hn).mono ?_
  rintro e w1 ⟨rfl, hb1⟩
  have HB1 := Lib.hid hb1
  clear hb1
  rw [sum_more]
  go_wp2
  go_ret
  exact ⟨rfl, HB1.out⟩

set_option maxHeartbeats 1000000 in
set_option maxRecDepth 100000 in
theorem refsum_any (A : Option Addr) (n c B : Nat) (xs : List Int) (w : World) (hr : Row .u8 w B A n xs) (hx : Bytes xs) (hn : n ≤ 4398046511104) :
    Calls Try.prog 19 #[.slice A n c] w fun e w' => e = .returned (.int .u32 ((sum xs : Nat) : Int)) ∧ w' = w := by
  have HR := Lib.hid hr
  have HX := Lib.hid hx
  have hlen := hr.len
  clear hr hx
  go_enter Try.func19, Try.ntmps19
  go_wp2
  go_loop [4, 3] (fun a b => ∃ i r : Nat, i ≤ n ∧ a = .int .i64 (i : Int) ∧ b = .int .u32 (r : Int) ∧ Hid (r < 4294967296 ∧ crc 4294967295 xs = crc r (xs.drop i))) (fun a _ => n - (intOf a).toNat)
  case atStart => exact ⟨0, 4294967295, Nat.zero_le _, rfl, rfl, by unfold Hid; exact ⟨by omega, by simp⟩⟩
  case round =>
    obtain ⟨i, r, hi, rfl, rfl, HI⟩ := hrel
    by_cases hlt : i < n
    · obtain ⟨b, o, rfl, _, hc1⟩ := HR.out.cell_at hlt
      have hr := HI.out.1
      have h8 := HX.out.getD (i := i) (by omega)
      have HD := Lib.hid (crc_drop (xs := xs) (i := i) (by omega) r)
      have HU := Lib.hid (upd_eq r (xs.getD i 0))
      have HL := Lib.hid (upd_lt hr h8.1 h8.2)
      obtain ⟨x, hx⟩ : ∃ x : Nat, xs.getD i 0 = (x : Int) := ⟨(xs.getD i 0).toNat, by omega⟩
      rw [hx] at hc1 h8 HU HD HL
      clear hx
      have h8' : x < 256 := by omega
      clear h8
      go_wp2
      go_loop [6, 5, 3] (fun a b d => ∃ k y q : Nat, k ≤ 8 ∧ a = .int .i64 (k : Int) ∧ b = .int .i64 (y : Int) ∧ d = .int .u32 (q : Int) ∧ Hid (y = x / 2 ^ k) ∧ Hid (q < 4294967296 ∧ q ^^^ y = steps k (r ^^^ x))) (fun a _ _ => 8 - (intOf a).toNat)
      case atStart => exact ⟨0, x, r, Nat.zero_le _, rfl, by go_num, rfl, by unfold Hid; simp, by unfold Hid; exact ⟨hr, rfl⟩⟩
      case round =>
        obtain ⟨k, y, q, hk, rfl, rfl, rfl, HY, HQ⟩ := hrel
        have hy : y < 256 := by rw [HY.out]; exact Nat.lt_of_le_of_lt (Nat.div_le_self _ _) h8'
        by_cases hlt8 : k < 8
        · have hq := HQ.out.1
          have HS : Hid (rstep q y ^^^ (y / 2) = steps (k + 1) (r ^^^ x)) := by unfold Hid; rw [step_rstep, HQ.out.2]; rfl
          have HY2 : Hid (y / 2 = x / 2 ^ (k + 1)) := by unfold Hid; rw [HY.out, Nat.div_div_eq_div_mul, ← Nat.pow_succ]
          have hxor : bits .xor .u32 ((q : Int) / 2) 3988292384 = ((q / 2 ^^^ 3988292384 : Nat) : Int) := u32_xor_nat (q / 2) 3988292384 (by omega) (by omega)
          have hwy := u32_in (x := (y : Int) % 2) (by omega) (by omega)
          by_cases hbit : q % 2 = y % 2
          · have hb : ((q : Int) % 2 == (y : Int) % 2) = true := by simp; omega
            have hb' : ((q : Int) % 2 != (y : Int) % 2) = false := by simp; omega
            go_wp2
            go_round
            case rel => exact ⟨k + 1, y / 2, rstep q y, by omega, by go_num, by go_num, by unfold rstep; rw [if_pos hbit]; go_num, HY2, by unfold Hid; exact ⟨rstep_lt hq, HS.out⟩⟩
            case measure => simp [intOf]; omega
          · have hb : ((q : Int) % 2 == (y : Int) % 2) = false := by simp; omega
            have hb' : ((q : Int) % 2 != (y : Int) % 2) = true := by simp; omega
            go_wp2
            go_round
            case rel => exact ⟨k + 1, y / 2, rstep q y, by omega, by go_num, by go_num, by unfold rstep; rw [if_neg hbit], HY2, by unfold Hid; exact ⟨rstep_lt hq, HS.out⟩⟩
            case measure => simp [intOf]; omega
        · obtain rfl : k = 8 := by omega
          have hy0 : y = 0 := by rw [HY.out]; exact Nat.div_eq_of_lt h8'
          subst hy0
          have HE : Hid (q = upd r (x : Int)) := by
            have := HQ.out.2
            rw [Nat.xor_zero] at this
            unfold Hid
            rw [this, HU.out]
            rfl
          go_wp2
          exact ⟨⟨i + 1, q, by omega, by go_num, rfl, by unfold Hid; exact ⟨HQ.out.1, by rw [HI.out.2, HD.out, HE.out]⟩⟩, by simp [intOf]; omega⟩
    · obtain rfl : i = n := by omega
      have hdr : xs.drop xs.length = [] := List.drop_eq_nil_of_le (Nat.le_refl _)
      have hr := HI.out.1
      have HF : Hid (sum xs = inv r) := by unfold Hid sum; rw [HI.out.2, ← hlen, hdr]; rfl
      clear hdr
      have hsub : IntKind.u32.wrap (4294967295 - (r : Int)) = 4294967295 - (r : Int) := u32_in (by omega) (by omega)
      go_wp2
      go_ret
      exact ⟨ret_int (by rw [HF.out]; unfold inv; omega), rfl⟩

def BytesTo (n : Nat) (w : World) (e : Ending) (w' : World) : Prop :=
  ∃ v, e = .returned v ∧ w'.ownsRow w.heap.size 5 1 v 4 ((byts 4 n).map (Value.int .u8)) ∧ Below w.heap.size w w'

set_option maxHeartbeats 400000 in
set_option maxRecDepth 100000 in
theorem bytes_any (n : Nat) (w : World) : Calls Try.prog 25 #[.int .u32 (n : Int)] w (BytesTo n w) := by
  have h0 : IntKind.u8.wrap (n : Int) = ((n % 256 : Nat) : Int) := by rw [IntKind.wrap_u8']; omega
  have h1 : IntKind.u8.wrap ((n : Int) / 256) = ((n / 256 % 256 : Nat) : Int) := by rw [IntKind.wrap_u8']; omega
  have h2 : IntKind.u8.wrap ((n : Int) / 65536) = ((n / 256 / 256 % 256 : Nat) : Int) := by rw [IntKind.wrap_u8']; omega
  have h3 : IntKind.u8.wrap ((n : Int) / 16777216) = ((n / 256 / 256 / 256 % 256 : Nat) : Int) := by rw [IntKind.wrap_u8']; omega
  go_enter Try.func25, Try.ntmps25
  go_wp2
  go_ret
  refine ⟨_, rfl, World.ownsRow_lit w _ 4 (Nat.le_refl _) (by unfold maxLen; omega) rfl, (Below.refl _ _).alloc (Nat.le_refl _) _⟩

set_option maxHeartbeats 800000 in
set_option maxRecDepth 100000 in
theorem refbytes_any (n : Nat) (hn : n < 4294967296) (w : World) : Calls Try.prog 18 #[.int .u32 (n : Int)] w (BytesTo n w) := by
  obtain ⟨i0, hi, hz0, hz1, hz2⟩ := info_parts info_u8
  go_enter Try.func18, Try.ntmps18
  go_wp2
  go_loopw [4, 0, 3] (fun a b v wr => ∃ (i m : Nat) (xs : List Int), i ≤ 4 ∧ m ≤ n ∧ a = .int .i64 (i : Int) ∧ b = .int .u32 (m : Int) ∧ Hid (byts 4 n = xs ++ byts (4 - i) m) ∧ Hid (xs.length = i) ∧ wr.ownsRow w.heap.size 5 1 v i (xs.map (Value.int .u8)) ∧ Below w.heap.size w wr)
    (fun a _ _ _ => 4 - (intOf a).toNat)
  case atStart => exact ⟨0, n, [], Nat.zero_le _, Nat.le_refl _, rfl, rfl, rfl, rfl, World.ownsRow_nil _ _ _ _, Below.refl _ _⟩
  case round =>
    obtain ⟨i, m, xs, hi4, hm, rfl, rfl, HP, HL, hown, hbl⟩ := hrel
    have hsz := hbl.size
    by_cases hlt : i < 4
    · have hw8 : IntKind.u8.wrap ((m : Int) % 256) = ((m % 256 : Nat) : Int) := by rw [IntKind.wrap_u8']; omega
      have HP2 : Hid (byts 4 n = (xs ++ [((m % 256 : Nat) : Int)]) ++ byts (4 - (i + 1)) (m / 256)) := by
        unfold Hid
        rw [HP.out, show 4 - i = (4 - (i + 1)) + 1 by omega]
        simp [byts]
      go_wp2_with (at_builtin; refine push_own rfl (.tmp 9) (.tmp 13) 22 rfl w.heap.size 5 i0 .u8 1 Try.underlying22 hi hz0 hz1 hz2 _ i xs ((m % 256 : Nat) : Int) rfl hown rfl (by omega) (by omega) hsz ?_; intro v1 w1 hown1 hb1)
      go_roundw
      case rel => exact ⟨i + 1, m / 256, xs ++ [((m % 256 : Nat) : Int)], by omega, by omega, by go_num, by go_num, HP2, by unfold Hid; simp [HL.out], hown1, hbl.trans hb1⟩
      case measure => simp [intOf]; omega
    · obtain rfl : i = 4 := by omega
      have HF : Hid (byts 4 n = xs) := by unfold Hid; rw [HP.out]; simp [byts]
      go_wp2
      go_ret
      exact ⟨_, rfl, by rw [HF.out]; exact hown, hbl⟩
end Go.Proofs.Ytjdhedjlilmolaa.Crc
