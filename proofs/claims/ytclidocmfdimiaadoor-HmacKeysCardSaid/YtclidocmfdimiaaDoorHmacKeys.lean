/- Proved: HmacKeys returns true for any key, text and number (a short key and that key with zero bytes behind it have one tag; so have a long key and its sum), and leaves what it was handed as it was; the package's two tables start as the program's text lays them (the card ties them); no other condition. -/
import Derived.Test.YtclidocmfdimiaaDoorRows
import Derived.Test.YtclidocmfdimiaaDoorTie
import Derived.Test.YtclidocmfdimiaaDoorCards
import Derived.Test.YtclidocmfdimiaaDoorHmcP
import Derived.Test.YtclidocmfdimiaaDoorHmcT
import Derived.SevenTiedAt
namespace Go.Proofs.YtclidocmfdimiaaDoor.HmacKeys
open Go.ChangeShapes Go.WideShapes Go.ChangeAt Go.RowKit

theorem row_holds : Rows.HmacKeysSaid := HmcP.keys_row Hmc.tag_ok

theorem holds : Rows.HmacKeysCardSaid :=
  Claim7.holds_tied_plain_at .later [] [.data, .data] true _ false
    row_holds (fun _ h => by cases h) (by kernel_rfl) (fun _ h => by cases h) hmacKeys_row_tie rfl ⟨rfl, rfl⟩ (by kernel_rfl) rfl
    (fun f fn hf hfn => by
      obtain rfl : f = 4 := Option.some.inj ((show Tryd.prog.funcNamed "viaticum/viaticumlaw08.HmacKeys" = some 4 by kernel_rfl).symm.trans hf) |>.symm
      obtain rfl : fn = Tryd.f4 := (Option.some.inj (Tryd.func4.symm.trans hfn)).symm
      exact ⟨by kernel_rfl, fun j t ht => by
        rw [Tryd.params4] at ht
        have hm : t ∈ [22, 5] := by simpa using Array.mem_of_getElem? ht
        have hall : ([22, 5].all fun u => !Tryd.prog.wantsStandIn u) = true := by kernel_rfl
        exact (show Tryd.prog.wantsStandIn t = false by simpa using List.all_eq_true.1 hall t hm)⟩)
    (by kernel_rfl)
end Go.Proofs.YtclidocmfdimiaaDoor.HmacKeys
