/- Proved: RingKeeps returns true for any number of keys and any draws (what is made and rotated is right, its epoch rises by one, and keys that stay are as they were), and leaves what it was handed as it was; the package's two tables start as the program's text lays them (the card ties them); no other condition. -/
import Derived.Test.YtdfmikamafbabaaDoorRows
import Derived.Test.YtdfmikamafbabaaDoorTie
import Derived.Test.YtdfmikamafbabaaDoorCards
import Derived.SevenTiedAt
import Derived.Test.YtdfmikamafbabaaDoorJ6d52cdf
import Derived.Test.YtdfmikamafbabaaDoorJ78daf45
namespace Go.Proofs.YtdfmikamafbabaaDoor.RingKeeps
open Go.ChangeShapes Go.WideShapes Go.ChangeAt Go.RowKit

theorem row_holds : Rows.RingKeepsSaid := RgP.keeps_row Rg.right_ok Rg.now_ok Rg.find_ok Rg.new_ok Rg.rotate_ok

theorem holds : Rows.RingKeepsCardSaid :=
  Claim7.holds_tied_plain_at .later [] [.data, .data] true _ false
    row_holds (fun _ h => by cases h) (by kernel_rfl) (fun _ h => by cases h) ringKeeps_row_tie rfl ⟨rfl, rfl⟩ (by kernel_rfl) rfl
    (fun f fn hf hfn => by
      obtain rfl : f = 4 := Option.some.inj ((show Tryd.prog.funcNamed "viaticum/viaticumlaw09.RingKeeps" = some 4 by kernel_rfl).symm.trans hf) |>.symm
      obtain rfl : fn = Tryd.f4 := (Option.some.inj (Tryd.func4.symm.trans hfn)).symm
      exact ⟨by kernel_rfl, fun j t ht => by
        rw [Tryd.params4] at ht
        have hm : t ∈ [5, 43] := by simpa using Array.mem_of_getElem? ht
        have hall : ([5, 43].all fun u => !Tryd.prog.wantsStandIn u) = true := by kernel_rfl
        exact (show Tryd.prog.wantsStandIn t = false by simpa using List.all_eq_true.1 hall t hm)⟩)
    (by kernel_rfl)
end Go.Proofs.YtdfmikamafbabaaDoor.RingKeeps
