/- Layer 7 (sha): the reference's turned, as a contract. -/
import Derived.Test.YtclidocmfdimiaaDoorShaM
import Derived.Test.YtclidocmfdimiaaDoorSame
import Derived.Test.YtclidocmfdimiaaDoorOwn
import Derived.Deep.QuietTactic
import Derived.BigQuiet
namespace Go.Proofs.YtclidocmfdimiaaDoor.Sha
open Go.RowKit

set_option maxHeartbeats 800000 in
set_option maxRecDepth 100000 in
theorem turned_any (a : Wd) (n : Nat) (h1 : 0 < n) (h2 : n < 32) (w : World) : Calls Tryd.prog 26 #[.int .u32 (wi a), .int .i64 (n : Int)] w fun e w' => e = .returned (.int .u32 (wi (rot a n))) ∧ ∃ q, w' = w.drewN q := by
  have hw : IntKind.i64.wrap (32 - (n : Int)) = 32 - (n : Int) := IntWalk.i64_in _ ⟨by omega, by omega⟩
  have i1 : (0 : Int) ≤ (n : Int) := by omega
  have i2 : (0 : Int) ≤ 32 - (n : Int) := by omega
  go_enter Tryd.func26, Tryd.ntmps26
  go_wp2_with fail
  go_quiet (fail)
  go_wp2
  go_ret
  refine ⟨?_, _, rfl⟩
  show Ending.returned (.int .u32 (bits .or .u32 (wi a / 2 ^ n) (wi a * 2 ^ (32 - n) % 4294967296))) = _
  rw [wi_shr, wi_shl, wi_or]
  rfl
/-- The same, by the number as it stands. -/
theorem turned_z (a : Wd) (z : Int) (h1 : 0 < z) (h2 : z < 32) (w : World) : Calls Tryd.prog 26 #[.int .u32 (wi a), .int .i64 z] w fun e w' => e = .returned (.int .u32 (wi (rot a z.toNat))) ∧ ∃ q, w' = w.drewN q := by
  obtain ⟨n, rfl⟩ := Int.eq_ofNat_of_zero_le (show 0 ≤ z by omega)
  exact turned_any a n (by omega) (by omega) w
end Go.Proofs.YtclidocmfdimiaaDoor.Sha
