/-
  DERIVED. GIVEN WITH THE SEED: THE CARDS: each row of YtppbpmmfcoblmaaDoorRows.lean that lists a variable, with what it lists TIED to the program's text (the seventh form; the later family's looks); each row that meets fmt, with fmt's text TOLD by the authors' own Lean function (tested against real Go, not proved from fmt's source: count such statements apart). THE CARD IS WHAT COUNTS. Prove the row's statement (the work); the ties are given (YtppbpmmfcoblmaaDoorTie.lean); close each card by the builder's one call (the guide's Derived/Test/ToyasCard.lean, 'card_holds'). Laid BY PROGRAM, IN A SANDBOX (cutbox-door.mjs). By AI agents, Wed Nov 11 2026. No macro, syntax, notation, axiom, sorry.
-/
import Derived.Test.YtppbpmmfcoblmaaDoorRows
import GoSem.ClaimSeven
namespace Go.Proofs.YtppbpmmfcoblmaaDoor
namespace Rows

/-- THE TIED CARD OF 'viaticumlaw11.ChallengeAnswers'. -/
def challengeAnswersCard : Claim7 := { stood := { row := challengeAnswersRow, standIns := [], harness := (true, "de439ee57f175ef085884b19c8f7530365953ff6bee4ddaf76a59e91d0b4ea6b"), looks := false }, kinds := [], alts := [], laidByText := true, laidKinds := [.data, .data], laidTests := true, laidLooks := .later }
def ChallengeAnswersCardSaid : Prop := Claim7.holds Tryd.pinned (.plain (OpenSpec.ofChange challengeAnswersSpec)) challengeAnswersCard

/-- THE TIED CARD OF 'viaticumlaw11.ChallengeChecks'. -/
def challengeChecksCard : Claim7 := { stood := { row := challengeChecksRow, standIns := [], harness := (true, "de439ee57f175ef085884b19c8f7530365953ff6bee4ddaf76a59e91d0b4ea6b"), looks := false }, kinds := [], alts := [], laidByText := true, laidKinds := [.data, .data], laidTests := true, laidLooks := .later }
def ChallengeChecksCardSaid : Prop := Claim7.holds Tryd.pinned (.plain (OpenSpec.ofChange challengeChecksSpec)) challengeChecksCard

/-- THE TIED CARD OF 'viaticumlaw11.ChallengeBack'. -/
def challengeBackCard : Claim7 := { stood := { row := challengeBackRow, standIns := [], harness := (true, "de439ee57f175ef085884b19c8f7530365953ff6bee4ddaf76a59e91d0b4ea6b"), looks := false }, kinds := [], alts := [], laidByText := true, laidKinds := [.data, .data], laidTests := true, laidLooks := .later }
def ChallengeBackCardSaid : Prop := Claim7.holds Tryd.pinned (.plain (OpenSpec.ofChange challengeBackSpec)) challengeBackCard

/-- THE SECOND FORM's CARD OF 'viaticumlaw11.ChallengeAnswers'. -/
def challengeAnswersUptoCard : Claim7 := { stood := { row := challengeAnswersUptoRow, standIns := [], harness := (true, "de439ee57f175ef085884b19c8f7530365953ff6bee4ddaf76a59e91d0b4ea6b"), looks := false }, kinds := [], alts := [], laidByText := true, laidKinds := [.data, .data], laidTests := true, laidLooks := .later }
def ChallengeAnswersUptoCardSaid : Prop := Claim7.holds Tryd.pinned (.plain (OpenSpec.upto challengeAnswersSpec)) challengeAnswersUptoCard

/-- THE SECOND FORM's CARD OF 'viaticumlaw11.ChallengeChecks'. -/
def challengeChecksUptoCard : Claim7 := { stood := { row := challengeChecksUptoRow, standIns := [], harness := (true, "de439ee57f175ef085884b19c8f7530365953ff6bee4ddaf76a59e91d0b4ea6b"), looks := false }, kinds := [], alts := [], laidByText := true, laidKinds := [.data, .data], laidTests := true, laidLooks := .later }
def ChallengeChecksUptoCardSaid : Prop := Claim7.holds Tryd.pinned (.plain (OpenSpec.upto challengeChecksSpec)) challengeChecksUptoCard

/-- THE SECOND FORM's CARD OF 'viaticumlaw11.ChallengeBack'. -/
def challengeBackUptoCard : Claim7 := { stood := { row := challengeBackUptoRow, standIns := [], harness := (true, "de439ee57f175ef085884b19c8f7530365953ff6bee4ddaf76a59e91d0b4ea6b"), looks := false }, kinds := [], alts := [], laidByText := true, laidKinds := [.data, .data], laidTests := true, laidLooks := .later }
def ChallengeBackUptoCardSaid : Prop := Claim7.holds Tryd.pinned (.plain (OpenSpec.upto challengeBackSpec)) challengeBackUptoCard
end Rows
end Go.Proofs.YtppbpmmfcoblmaaDoor
