/-
  DERIVED. GIVEN WITH THE SEED: THE CARDS: each row of YtmkdbpdfonpfdaaDoorRows.lean that lists a variable, with what it lists TIED to the program's text (the seventh form; the later family's looks); each row that meets fmt, with fmt's text TOLD by the authors' own Lean function (tested against real Go, not proved from fmt's source: count such statements apart). THE CARD IS WHAT COUNTS. Prove the row's statement (the work); the ties are given (YtmkdbpdfonpfdaaDoorTie.lean); close each card by the builder's one call (the guide's Derived/Test/ToyasCard.lean, 'card_holds'). Laid BY PROGRAM, IN A SANDBOX (cutbox-door.mjs). By AI agents, Wed Nov 11 2026. No macro, syntax, notation, axiom, sorry.
-/
import Derived.Test.YtmkdbpdfonpfdaaDoorRows
import GoSem.ClaimSeven
namespace Go.Proofs.YtmkdbpdfonpfdaaDoor
namespace Rows

/-- THE TIED CARD OF 'viaticumlaw10.TokenIssues'. -/
def tokenIssuesCard : Claim7 := { stood := { row := tokenIssuesRow, standIns := [], harness := (true, "c9b00fb3f0beae8d6ccd573d4f48cd648c4bbede19d5a9f62497801c77a5f3e4"), looks := false }, kinds := [], alts := [], laidByText := true, laidKinds := [.data, .data], laidTests := true, laidLooks := .later }
def TokenIssuesCardSaid : Prop := Claim7.holds Tryd.pinned (.plain (OpenSpec.ofChange tokenIssuesSpec)) tokenIssuesCard

/-- THE TIED CARD OF 'viaticumlaw10.TokenVerifies'. -/
def tokenVerifiesCard : Claim7 := { stood := { row := tokenVerifiesRow, standIns := [], harness := (true, "c9b00fb3f0beae8d6ccd573d4f48cd648c4bbede19d5a9f62497801c77a5f3e4"), looks := false }, kinds := [], alts := [], laidByText := true, laidKinds := [.data, .data], laidTests := true, laidLooks := .later }
def TokenVerifiesCardSaid : Prop := Claim7.holds Tryd.pinned (.plain (OpenSpec.ofChange tokenVerifiesSpec)) tokenVerifiesCard

/-- THE TIED CARD OF 'viaticumlaw10.TokenBack'. -/
def tokenBackCard : Claim7 := { stood := { row := tokenBackRow, standIns := [], harness := (true, "c9b00fb3f0beae8d6ccd573d4f48cd648c4bbede19d5a9f62497801c77a5f3e4"), looks := false }, kinds := [], alts := [], laidByText := true, laidKinds := [.data, .data], laidTests := true, laidLooks := .later }
def TokenBackCardSaid : Prop := Claim7.holds Tryd.pinned (.plain (OpenSpec.ofChange tokenBackSpec)) tokenBackCard

/-- THE TIED CARD OF 'viaticumlaw10.TokenTagged'. -/
def tokenTaggedCard : Claim7 := { stood := { row := tokenTaggedRow, standIns := [], harness := (true, "c9b00fb3f0beae8d6ccd573d4f48cd648c4bbede19d5a9f62497801c77a5f3e4"), looks := false }, kinds := [], alts := [], laidByText := true, laidKinds := [.data, .data], laidTests := true, laidLooks := .later }
def TokenTaggedCardSaid : Prop := Claim7.holds Tryd.pinned (.plain (OpenSpec.ofChange tokenTaggedSpec)) tokenTaggedCard

/-- THE SECOND FORM's CARD OF 'viaticumlaw10.TokenIssues'. -/
def tokenIssuesUptoCard : Claim7 := { stood := { row := tokenIssuesUptoRow, standIns := [], harness := (true, "c9b00fb3f0beae8d6ccd573d4f48cd648c4bbede19d5a9f62497801c77a5f3e4"), looks := false }, kinds := [], alts := [], laidByText := true, laidKinds := [.data, .data], laidTests := true, laidLooks := .later }
def TokenIssuesUptoCardSaid : Prop := Claim7.holds Tryd.pinned (.plain (OpenSpec.upto tokenIssuesSpec)) tokenIssuesUptoCard

/-- THE SECOND FORM's CARD OF 'viaticumlaw10.TokenVerifies'. -/
def tokenVerifiesUptoCard : Claim7 := { stood := { row := tokenVerifiesUptoRow, standIns := [], harness := (true, "c9b00fb3f0beae8d6ccd573d4f48cd648c4bbede19d5a9f62497801c77a5f3e4"), looks := false }, kinds := [], alts := [], laidByText := true, laidKinds := [.data, .data], laidTests := true, laidLooks := .later }
def TokenVerifiesUptoCardSaid : Prop := Claim7.holds Tryd.pinned (.plain (OpenSpec.upto tokenVerifiesSpec)) tokenVerifiesUptoCard

/-- THE SECOND FORM's CARD OF 'viaticumlaw10.TokenBack'. -/
def tokenBackUptoCard : Claim7 := { stood := { row := tokenBackUptoRow, standIns := [], harness := (true, "c9b00fb3f0beae8d6ccd573d4f48cd648c4bbede19d5a9f62497801c77a5f3e4"), looks := false }, kinds := [], alts := [], laidByText := true, laidKinds := [.data, .data], laidTests := true, laidLooks := .later }
def TokenBackUptoCardSaid : Prop := Claim7.holds Tryd.pinned (.plain (OpenSpec.upto tokenBackSpec)) tokenBackUptoCard

/-- THE SECOND FORM's CARD OF 'viaticumlaw10.TokenTagged'. -/
def tokenTaggedUptoCard : Claim7 := { stood := { row := tokenTaggedUptoRow, standIns := [], harness := (true, "c9b00fb3f0beae8d6ccd573d4f48cd648c4bbede19d5a9f62497801c77a5f3e4"), looks := false }, kinds := [], alts := [], laidByText := true, laidKinds := [.data, .data], laidTests := true, laidLooks := .later }
def TokenTaggedUptoCardSaid : Prop := Claim7.holds Tryd.pinned (.plain (OpenSpec.upto tokenTaggedSpec)) tokenTaggedUptoCard
end Rows
end Go.Proofs.YtmkdbpdfonpfdaaDoor
