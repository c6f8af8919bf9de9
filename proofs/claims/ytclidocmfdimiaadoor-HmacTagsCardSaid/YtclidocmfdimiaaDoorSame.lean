/- Two slices of bytes that read alike are the same for the reference's Same: a contract over the program. -/
import Derived.Test.YtclidocmfdimiaaDoorProg
import Derived.Test.YtclidocmfdimiaaDoorBase
import Derived.WalkKit
import Derived.KernelRfl
import Derived.Deep.QuietTactic
import Derived.BigQuiet
import Derived.WalkMore
namespace Go.Proofs.YtclidocmfdimiaaDoor
open Go.RowKit

set_option maxHeartbeats 800000 in
set_option maxRecDepth 100000 in
/-- Two slices that read alike are the same. -/
theorem same_yes (A A' : Option Addr) (n c c' B B' : Nat) (xs : List Int) (w : World) (hn : n ≤ 4398046511104) (h1 : Row .u8 w B A n xs) (h2 : Row .u8 w B' A' n xs) :
    Calls Tryd.prog 6 #[.slice A n c, .slice A' n c'] w fun e w' => e = .returned (.bool true) ∧ ∃ q, w' = w.drewN q := by
  have H1 := Lib.hid h1
  have H2 := Lib.hid h2
  clear h1 h2
  go_enter Tryd.func6, Tryd.ntmps6
  go_wp2
  go_loopw [5] (fun i wr => ∃ k q : Nat, k ≤ n ∧ i = .int .i64 (k : Int) ∧ Hid (wr = w.drewN q)) (fun i _ => n - (intOf i).toNat)
  case atStart => exact ⟨0, 0, Nat.zero_le _, rfl, rfl⟩
  case round =>
    obtain ⟨k, q, hk, rfl, hw⟩ := hrel
    obtain rfl := hw.out
    clear hw
    by_cases hlt : k < n
    · obtain ⟨b, o, rfl, _, hc1⟩ := H1.out.cell_at hlt
      obtain ⟨b', o', rfl, _, hc2⟩ := H2.out.cell_at hlt
      go_wp2
      go_quiet (fail)
      go_wp2
      go_roundw
      case rel => exact ⟨k + 1, _, by omega, by go_num, by unfold Hid; rfl⟩
      case measure => simp [intOf]; omega
    · go_wp2
      go_ret
      exact ⟨rfl, _, rfl⟩
end Go.Proofs.YtclidocmfdimiaaDoor
