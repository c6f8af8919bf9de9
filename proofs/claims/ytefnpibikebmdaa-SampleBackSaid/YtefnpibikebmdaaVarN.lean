/- The turns of layer 1 (varint), signed numbers as codes, and those of its reference, as contracts over the program. -/
import Derived.Test.YtefnpibikebmdaaVarR
namespace Go.Proofs.Ytefnpibikebmdaa.Var
open Go.RowKit

set_option maxRecDepth 100000 in
theorem turn_any (n : Int) (h1 : -9223372036854775808 ≤ n) (h2 : n ≤ 9223372036854775807) (w : World) :
    Calls Try.prog 40 #[.int .i64 n] w fun e w' => e = .returned (.int .u64 (turn n)) ∧ w = w' := by
  by_cases hn : n < 0
  · go_enter Try.func40, Try.ntmps40
    go_wp2
    go_ret
    exact ⟨ret_int (by unfold turn; split <;> omega), rfl⟩
  · go_enter Try.func40, Try.ntmps40
    go_wp2
    go_ret
    exact ⟨ret_int (by unfold turn; split <;> omega), rfl⟩

set_option maxRecDepth 100000 in
theorem refturn_any (n : Int) (h1 : -9223372036854775808 ≤ n) (h2 : n ≤ 9223372036854775807) (w : World) :
    Calls Try.prog 31 #[.int .i64 n] w fun e w' => e = .returned (.int .u64 (turn n)) ∧ w = w' := by
  by_cases hn : n < 0
  · go_enter Try.func31, Try.ntmps31
    go_wp2
    go_ret
    exact ⟨ret_int (by unfold turn; split <;> omega), rfl⟩
  · go_enter Try.func31, Try.ntmps31
    go_wp2
    go_ret
    exact ⟨ret_int (by unfold turn; split <;> omega), rfl⟩

set_option maxRecDepth 100000 in
theorem back_any (m : Int) (h1 : 0 ≤ m) (h2 : m ≤ 18446744073709551615) (w : World) :
    Calls Try.prog 46 #[.int .u64 m] w fun e w' => e = .returned (.int .i64 (back m)) ∧ w = w' := by
  by_cases hm : m % 2 = 1
  · go_enter Try.func46, Try.ntmps46
    go_wp2
    go_ret
    exact ⟨ret_int (by unfold back; split <;> omega), rfl⟩
  · go_enter Try.func46, Try.ntmps46
    go_wp2
    go_ret
    exact ⟨ret_int (by unfold back; split <;> omega), rfl⟩
end Go.Proofs.Ytefnpibikebmdaa.Var
