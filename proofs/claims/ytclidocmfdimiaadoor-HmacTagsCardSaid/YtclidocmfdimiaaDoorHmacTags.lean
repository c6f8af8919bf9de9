/- Proved: HmacTags returns true for any key, parts and name (the program's tag of any parts under any key is the document's, and so is the one that is derived from a name), and leaves what it was handed as it was; the package's two tables start as the program's text lays them (the card ties them); no other condition. -/
import Derived.Test.YtclidocmfdimiaaDoorRows
import Derived.Test.YtclidocmfdimiaaDoorTie
import Derived.Test.YtclidocmfdimiaaDoorCards
import Derived.Test.YtclidocmfdimiaaDoorHmcP
import Derived.Test.YtclidocmfdimiaaDoorHmcT
import Derived.SevenTiedAt
namespace Go.Proofs.YtclidocmfdimiaaDoor.HmacTags
open Go.ChangeShapes Go.WideShapes Go.ChangeAt Go.RowKit

theorem row_holds : Rows.HmacTagsSaid := HmcP.tags_row Hmc.tag_ok Hmc.derive_ok

theorem holds : Rows.HmacTagsCardSaid :=
  Claim7.holds_tied_plain_at .later [] [.data, .data] true _ false
    row_holds (fun _ h => by cases h) (by kernel_rfl) (fun _ h => by cases h) hmacTags_row_tie rfl ⟨rfl, rfl⟩ (by kernel_rfl) rfl
    (fun f fn hf hfn => by
      obtain rfl : f = 3 := Option.some.inj ((show Tryd.prog.funcNamed "viaticum/viaticumlaw08.HmacTags" = some 3 by kernel_rfl).symm.trans hf) |>.symm
      obtain rfl : fn = Tryd.f3 := (Option.some.inj (Tryd.func3.symm.trans hfn)).symm
      exact ⟨by kernel_rfl, fun j t ht => by
        rw [Tryd.params3] at ht
        have hm : t ∈ [22, 23, 9] := by simpa using Array.mem_of_getElem? ht
        have hall : ([22, 23, 9].all fun u => !Tryd.prog.wantsStandIn u) = true := by kernel_rfl
        exact (show Tryd.prog.wantsStandIn t = false by simpa using List.all_eq_true.1 hall t hm)⟩)
    (by kernel_rfl)
end Go.Proofs.YtclidocmfdimiaaDoor.HmacTags
