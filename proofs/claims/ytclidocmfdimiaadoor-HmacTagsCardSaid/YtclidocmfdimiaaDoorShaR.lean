/- Layer 7 (sha): the program's right, as a contract; the small functions in the program's spelling. -/
import Derived.Test.YtclidocmfdimiaaDoorShaT
namespace Go.Proofs.YtclidocmfdimiaaDoor.Sha
open Go.RowKit

theorem cho_or (e f g : Wd) : (e &&& f) ||| (~~~e &&& g) = cho e f g := by
  unfold cho
  ext i hi
  simp only [BitVec.getElem_or, BitVec.getElem_and, BitVec.getElem_xor, BitVec.getElem_not]
  cases e[i] <;> cases f[i] <;> cases g[i] <;> rfl
theorem maj_or (a b c : Wd) : (a &&& b) ||| (a &&& c) ||| (b &&& c) = maj a b c := by
  unfold maj
  ext i hi
  simp only [BitVec.getElem_or, BitVec.getElem_and, BitVec.getElem_xor]
  cases a[i] <;> cases b[i] <;> cases c[i] <;> rfl

set_option maxHeartbeats 800000 in
set_option maxRecDepth 100000 in
theorem rotl_any (a : Wd) (n : Nat) (h1 : 0 < n) (h2 : n < 32) (w : World) : Calls Tryd.prog 30 #[.int .u32 (wi a), .int .i64 (-(n : Int))] w fun e w' => e = .returned (.int .u32 (wi (rot a n))) ∧ w' = w := by
  have hw : bits .and .u64 (IntKind.u64.wrap (-(n : Int))) 31 = 32 - (n : Int) := by
    have : ∀ n : Fin 32, 0 < n.val → bits .and .u64 (IntKind.u64.wrap (-(n.val : Int))) 31 = 32 - (n.val : Int) := by decide +kernel
    exact this ⟨n, h2⟩ h1
  have hw2 : IntKind.u64.wrap (32 - (32 - (n : Int))) = (n : Int) := by rw [IntWalk.u64_in _ ⟨by omega, by omega⟩]; omega
  have i1 : (0 : Int) ≤ (n : Int) := by omega
  have i2 : (0 : Int) ≤ 32 - (n : Int) := by omega
  go_enter Tryd.func30, Tryd.ntmps30
  go_wp2
  go_ret
  refine ⟨?_, rfl⟩
  show Ending.returned (.int .u32 (bits .or .u32 (wi a * 2 ^ (32 - n) % 4294967296) (wi a / 2 ^ n))) = _
  rw [wi_shr, wi_shl, wi_or, BitVec.or_comm]
  rfl

set_option maxHeartbeats 800000 in
set_option maxRecDepth 100000 in
theorem right_any (a : Wd) (n : Nat) (h1 : 0 < n) (h2 : n < 32) (w : World) : Calls Tryd.prog 29 #[.int .u32 (wi a), .int .i64 (n : Int)] w fun e w' => e = .returned (.int .u32 (wi (rot a n))) ∧ w' = w := by
  go_enter Tryd.func29, Tryd.ntmps29
  go_wp2_with fail
  refine (rotl_any a n h1 h2 _).mono ?_
  rintro e w' ⟨rfl, rfl⟩
  go_wp2
  go_ret
  exact ⟨rfl, rfl⟩
/-- The same, by the number as it stands. -/
theorem right_z (a : Wd) (z : Int) (h1 : 0 < z) (h2 : z < 32) (w : World) : Calls Tryd.prog 29 #[.int .u32 (wi a), .int .i64 z] w fun e w' => e = .returned (.int .u32 (wi (rot a z.toNat))) ∧ w' = w := by
  obtain ⟨n, rfl⟩ := Int.eq_ofNat_of_zero_le (show 0 ≤ z by omega)
  exact right_any a n (by omega) (by omega) w
end Go.Proofs.YtclidocmfdimiaaDoor.Sha
