/- Proved: TokenIssues returns true for any ring and token (the program issues the document's bytes, or none, tells which tokens there may be, and writes the document's fields), and leaves what it was handed as it was; the package's two tables start as the program's text lays them (the card ties them); no other condition. -/
import Derived.Test.YtmkdbpdfonpfdaaDoorRows
import Derived.Test.YtmkdbpdfonpfdaaDoorTie
import Derived.Test.YtmkdbpdfonpfdaaDoorCards
import Derived.SevenTiedAt
import Derived.Test.YtmkdbpdfonpfdaaDoorJ10620102
import Derived.Test.YtmkdbpdfonpfdaaDoorJ12566d5b
namespace Go.Proofs.YtmkdbpdfonpfdaaDoor.TokenIssues
open Go.ChangeShapes Go.WideShapes Go.ChangeAt Go.RowKit

theorem row_holds : Rows.TokenIssuesSaid := TokQ.issues_row Tok.may_ok Tok.fields_ok Tok.issue_ok Tok.verify_ok Rg.new_ok

theorem holds : Rows.TokenIssuesCardSaid :=
  Claim7.holds_tied_plain_at .later [] [.data, .data] true _ false
    row_holds (fun _ h => by cases h) (by kernel_rfl) (fun _ h => by cases h) tokenIssues_row_tie rfl ⟨rfl, rfl⟩ (by kernel_rfl) rfl
    (fun f fn hf hfn => by
      obtain rfl : f = 3 := Option.some.inj ((show Tryd.prog.funcNamed "viaticum/viaticumlaw10.TokenIssues" = some 3 by kernel_rfl).symm.trans hf) |>.symm
      obtain rfl : fn = Tryd.f3 := (Option.some.inj (Tryd.func3.symm.trans hfn)).symm
      exact ⟨by kernel_rfl, fun j t ht => by
        rw [Tryd.params3] at ht
        have hm : t ∈ [24, 26] := by simpa using Array.mem_of_getElem? ht
        have hall : ([24, 26].all fun u => !Tryd.prog.wantsStandIn u) = true := by kernel_rfl
        exact (show Tryd.prog.wantsStandIn t = false by simpa using List.all_eq_true.1 hall t hm)⟩)
    (by kernel_rfl)
end Go.Proofs.YtmkdbpdfonpfdaaDoor.TokenIssues
