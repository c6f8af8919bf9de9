/- Proved: RingTells returns true for any ring, draw and two numbers (the program tells which rings are right as the document does, makes and rotates rings as it says or refuses with its errors, and finds their keys), and leaves what it was handed as it was; the package's two tables start as the program's text lays them (the card ties them); no other condition. -/
import Derived.Test.YtdfmikamafbabaaDoorRows
import Derived.Test.YtdfmikamafbabaaDoorTie
import Derived.Test.YtdfmikamafbabaaDoorCards
import Derived.SevenTiedAt
import Derived.Test.YtdfmikamafbabaaDoorJ6d52cdf
import Derived.Test.YtdfmikamafbabaaDoorJ78daf45
namespace Go.Proofs.YtdfmikamafbabaaDoor.RingTells
open Go.ChangeShapes Go.WideShapes Go.ChangeAt Go.RowKit

theorem row_holds : Rows.RingTellsSaid := RgP.tells_row Rg.right_ok Rg.now_ok Rg.find_ok Rg.new_ok Rg.rotate_ok

theorem holds : Rows.RingTellsCardSaid :=
  Claim7.holds_tied_plain_at .later [] [.data, .data] true _ false
    row_holds (fun _ h => by cases h) (by kernel_rfl) (fun _ h => by cases h) ringTells_row_tie rfl ⟨rfl, rfl⟩ (by kernel_rfl) rfl
    (fun f fn hf hfn => by
      obtain rfl : f = 3 := Option.some.inj ((show Tryd.prog.funcNamed "viaticum/viaticumlaw09.RingTells" = some 3 by kernel_rfl).symm.trans hf) |>.symm
      obtain rfl : fn = Tryd.f3 := (Option.some.inj (Tryd.func3.symm.trans hfn)).symm
      exact ⟨by kernel_rfl, fun j t ht => by
        rw [Tryd.params3] at ht
        have hm : t ∈ [24, 25, 26] := by simpa using Array.mem_of_getElem? ht
        have hall : ([24, 25, 26].all fun u => !Tryd.prog.wantsStandIn u) = true := by kernel_rfl
        exact (show Tryd.prog.wantsStandIn t = false by simpa using List.all_eq_true.1 hall t hm)⟩)
    (by kernel_rfl)
end Go.Proofs.YtdfmikamafbabaaDoor.RingTells
