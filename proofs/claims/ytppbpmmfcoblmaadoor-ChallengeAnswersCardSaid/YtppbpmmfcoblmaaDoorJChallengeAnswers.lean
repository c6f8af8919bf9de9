/- Proved: ChallengeAnswers returns true for any ring, slices and time (any token's device has the document's key, or none; any key and question the document's answer), and leaves what it was handed as it was; the package's two tables start as the program's text lays them (the card ties them); no other condition. -/
import Derived.Test.YtppbpmmfcoblmaaDoorRows
import Derived.Test.YtppbpmmfcoblmaaDoorTie
import Derived.Test.YtppbpmmfcoblmaaDoorCards
import Derived.SevenTiedAt
import Derived.Test.YtppbpmmfcoblmaaDoorJ44d69bd3
namespace Go.Proofs.YtppbpmmfcoblmaaDoor.ChallengeAnswers
open Go.ChangeShapes Go.WideShapes Go.ChangeAt Go.RowKit

theorem row_holds : Rows.ChallengeAnswersSaid := ChQ.answers_row

theorem holds : Rows.ChallengeAnswersCardSaid :=
  Claim7.holds_tied_plain_at .later [] [.data, .data] true _ false
    row_holds (fun _ h => by cases h) (by kernel_rfl) (fun _ h => by cases h) challengeAnswers_row_tie rfl ⟨rfl, rfl⟩ (by kernel_rfl) rfl
    (fun f fn hf hfn => by
      obtain rfl : f = 3 := Option.some.inj ((show Tryd.prog.funcNamed "viaticum/viaticumlaw11.ChallengeAnswers" = some 3 by kernel_rfl).symm.trans hf) |>.symm
      obtain rfl : fn = Tryd.f3 := (Option.some.inj (Tryd.func3.symm.trans hfn)).symm
      exact ⟨by kernel_rfl, fun j t ht => by
        rw [Tryd.params3] at ht
        have hm : t ∈ [24, 26, 3] := by simpa using Array.mem_of_getElem? ht
        have hall : ([24, 26, 3].all fun u => !Tryd.prog.wantsStandIn u) = true := by kernel_rfl
        exact (show Tryd.prog.wantsStandIn t = false by simpa using List.all_eq_true.1 hall t hm)⟩)
    (by kernel_rfl)
end Go.Proofs.YtppbpmmfcoblmaaDoor.ChallengeAnswers
