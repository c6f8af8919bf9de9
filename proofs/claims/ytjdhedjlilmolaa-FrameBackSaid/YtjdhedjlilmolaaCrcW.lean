/- What crc.More and crc.Sum, crc.Bytes, and the reference's Sum and Bytes return, as contracts over the program. -/
import Derived.Test.YtjdhedjlilmolaaProg
import Derived.Test.YtjdhedjlilmolaaBase
import Derived.Test.YtjdhedjlilmolaaCrcM
import Derived.Test.YtjdhedjlilmolaaCrcT
import Derived.WalkKit
import Derived.KernelRfl
import Derived.WalkMore
namespace Go.Proofs.Ytjdhedjlilmolaa.Crc
open Go.RowKit

theorem cells_get {j : Nat} (hj : j < 16) : (cells 16)[j]? = some (.int .u32 ((steps 4 j : Nat) : Int)) := by simp [cells, tab, hj]

theorem u32_in {x : Int} (h1 : 0 ≤ x) (h2 : x < 4294967296) : IntKind.u32.wrap x = x := by rw [IntKind.wrap_u32']; omega

set_option maxHeartbeats 1000000 in
set_option maxRecDepth 100000 in
theorem more_any (s : Nat) (hs : s < 4294967296) (A : Option Addr) (n c B : Nat) (xs : List Int) (w : World) (hr : Row .u8 w B A n xs) (hx : Bytes xs) (hB : B ≤ w.heap.size) (hn : n ≤ 4398046511104) :
    Calls Try.prog 27 #[.int .u32 (s : Int), .slice A n c] w fun e w' => e = .returned (.int .u32 ((more s xs : Nat) : Int)) ∧ Below w.heap.size w w' := by
  have HR := Lib.hid hr
  have HX := Lib.hid hx
  have hlen := hr.len
  have hnot := not_u32 hs
  clear hr hx
  go_enter Try.func27, Try.ntmps27
  go_wp2_with fail
  refine (table_any _).mono ?_
  rintro e w1 ⟨rfl, hb1⟩
  have HB1 := Lib.hid hb1
  clear hb1
  rw [cells_full]
  go_wp2
  rw [← cells_full]
  generalize hw2 : w1.alloc (Obj.cells (cells 16) 52) = w2
  have HC : Hid (∀ j, j < 16 → w2.cell? ⟨w1.heap.size, j, none⟩ = some (.int .u32 ((steps 4 j : Nat) : Int))) := by
    intro j hj
    rw [← hw2]
    simp [cells_get hj]
  have HB2 : Hid (Below w.heap.size w w2) := by rw [← hw2]; exact HB1.out.alloc HB1.out.size _
  have HR2 : Hid (Row .u8 w2 B A n xs) := Row.keep HR.out (fun p hp => HB2.out.cell (by omega))
  clear hw2 HR
  have hs' := inv_lt s
  go_loop [14, 6] (fun a b => ∃ i r : Nat, i ≤ n ∧ a = .int .i64 (i : Int) ∧ b = .int .u32 (r : Int) ∧ Hid (r < 4294967296 ∧ crc (inv s) xs = crc r (xs.drop i))) (fun a _ => n - (intOf a).toNat)
  case atStart => exact ⟨0, inv s, Nat.zero_le _, rfl, rfl, by unfold Hid; exact ⟨inv_lt s, by simp⟩⟩
  case round =>
    obtain ⟨i, r, hi, rfl, rfl, HI⟩ := hrel
    by_cases hlt : i < n
    · obtain ⟨b, o, rfl, _, hc1⟩ := HR2.out.cell_at hlt
      have hr := HI.out.1
      have h8 := HX.out.getD (i := i) (by omega)
      have HD := Lib.hid (crc_drop (xs := xs) (i := i) (by omega) r)
      have HU := Lib.hid (upd_eq r (xs.getD i 0))
      have HL := Lib.hid (upd_lt hr h8.1 h8.2)
      obtain ⟨x, hx⟩ : ∃ x : Nat, xs.getD i 0 = (x : Int) := ⟨(xs.getD i 0).toNat, by omega⟩
      rw [hx] at hc1 h8 HU HD HL
      clear hx
      have h8' : x < 256 := by omega
      have hwx := u32_in (x := (x : Int)) (by omega) (by omega)
      have hx1 := u32_xor_nat r x hr (by omega)
      have hl1 : r ^^^ x < 4294967296 := Nat.xor_lt_two_pow (n := 32) hr (by omega)
      have HU' : Hid (upd r (x : Int) = steps 4 (steps 4 (r ^^^ x))) := HU.out
      clear HU
      generalize r ^^^ x = r1 at *
      have hc2 := HC.out (r1 % 16) (by omega)
      have hl2 := steps_lt hl1 4
      have hx2 : bits .xor .u32 ((r1 : Int) / 16) ((steps 4 (r1 % 16) : Nat) : Int) = ((steps 4 r1 : Nat) : Int) := by
        rw [← steps4 r1]
        exact u32_xor_nat (r1 / 16) (steps 4 (r1 % 16)) (by omega) (steps_lt (by omega) 4)
      have HT1 : Hid (steps 4 (r1 % 16) < 4294967296) := steps_lt (by omega) 4
      generalize steps 4 r1 = r2 at *
      generalize steps 4 (r1 % 16) = t1 at *
      have hc3 := HC.out (r2 % 16) (by omega)
      have hl3 := steps_lt hl2 4
      have hx3 : bits .xor .u32 ((r2 : Int) / 16) ((steps 4 (r2 % 16) : Nat) : Int) = ((steps 4 r2 : Nat) : Int) := by
        rw [← steps4 r2]
        exact u32_xor_nat (r2 / 16) (steps 4 (r2 % 16)) (by omega) (steps_lt (by omega) 4)
      generalize steps 4 r2 = r3 at *
      generalize steps 4 (r2 % 16) = t2 at *
      go_wp2
      go_round
      case rel => exact ⟨i + 1, r3, by omega, by go_num, rfl, by unfold Hid; exact ⟨hl3, by rw [HI.out.2, HD.out, HU'.out]⟩⟩
      case measure => simp [intOf]; omega
    · obtain rfl : i = n := by omega
      have hdr : xs.drop xs.length = [] := List.drop_eq_nil_of_le (Nat.le_refl _)
      have hr := HI.out.1
      have hnot2 := not_u32 hr
      have HF : Hid (more s xs = inv r) := by unfold Hid more; rw [HI.out.2, ← hlen, hdr]; rfl
      clear hdr
      go_wp2
      go_ret
      exact ⟨by rw [HF.out]; rfl, HB2.out⟩
end Go.Proofs.Ytjdhedjlilmolaa.Crc
