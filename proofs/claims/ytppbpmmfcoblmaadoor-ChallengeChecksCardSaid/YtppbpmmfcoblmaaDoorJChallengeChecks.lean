/- Proved: ChallengeChecks returns true for any ring, slices, time and slack (an answer is taken just if the document says so, or for its reason not), and leaves what it was handed as it was; the package's two tables start as the program's text lays them (the card ties them); no other condition. -/
import Derived.Test.YtppbpmmfcoblmaaDoorRows
import Derived.Test.YtppbpmmfcoblmaaDoorTie
import Derived.Test.YtppbpmmfcoblmaaDoorCards
import Derived.SevenTiedAt
import Derived.Test.YtppbpmmfcoblmaaDoorJ44d69bd3
namespace Go.Proofs.YtppbpmmfcoblmaaDoor.ChallengeChecks
open Go.ChangeShapes Go.WideShapes Go.ChangeAt Go.RowKit

theorem row_holds : Rows.ChallengeChecksSaid := ChQ.checks_row

theorem holds : Rows.ChallengeChecksCardSaid :=
  Claim7.holds_tied_plain_at .later [] [.data, .data] true _ false
    row_holds (fun _ h => by cases h) (by kernel_rfl) (fun _ h => by cases h) challengeChecks_row_tie rfl ⟨rfl, rfl⟩ (by kernel_rfl) rfl
    (fun f fn hf hfn => by
      obtain rfl : f = 4 := Option.some.inj ((show Tryd.prog.funcNamed "viaticum/viaticumlaw11.ChallengeChecks" = some 4 by kernel_rfl).symm.trans hf) |>.symm
      obtain rfl : fn = Tryd.f4 := (Option.some.inj (Tryd.func4.symm.trans hfn)).symm
      exact ⟨by kernel_rfl, fun j t ht => by
        rw [Tryd.params4] at ht
        have hm : t ∈ [24, 26, 39] := by simpa using Array.mem_of_getElem? ht
        have hall : ([24, 26, 39].all fun u => !Tryd.prog.wantsStandIn u) = true := by kernel_rfl
        exact (show Tryd.prog.wantsStandIn t = false by simpa using List.all_eq_true.1 hall t hm)⟩)
    (by kernel_rfl)
end Go.Proofs.YtppbpmmfcoblmaaDoor.ChallengeChecks
