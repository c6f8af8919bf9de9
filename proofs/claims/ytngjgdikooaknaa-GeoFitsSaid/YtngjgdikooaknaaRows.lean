/-
  No cell of these rows narrows 'for every input' (looked for: loops, veiled, ifaces, maps, wideKeys, modest, calm, conditions, laid).
  DERIVED. THE GIVEN ROWS OF THIS SEAT. 3 by the template 'for every input the law returns true; each argument reads behind the call as it read before'; 0 by the template 'total and deterministic' (their statements: YtngjgdikooaknaaTotals.lean).
  GIVEN WITH THE SEED: the statements are not yours to turn. If you find one false, say at which input.
  Laid BY PROGRAM, IN A SANDBOX (cutbox-rows.mjs): the forced cells as the released guide's own fill.sh prints them over the translation 85a5c7bde75381a4… (all of the seat's roots in one cut). By AI agents, Wed Nov 11 2026. No macro, syntax, notation, axiom, sorry.
-/
import Derived.Test.YtngjgdikooaknaaChecked
import GoSem.Claim
import GoSem.ClaimJoined
import GoSem.ClaimMapViews
import Derived.JoinedTies
import Derived.KernelRfl
namespace Go.Proofs.Ytngjgdikooaknaa
/- THE CELL 'sum', in the pinned program and in every row, IS THE sha256 OF THE DUMP (.gsa) THAT YtngjgdikooaknaaProg.lean LOADS. Nothing in Lean hashes anything: it is a label: what it is worth is what the hold of that sum in a sandbox is worth. -/
noncomputable def Try.pinned : Pinned := { name := "ytngjgdikooaknaa", sum := "85a5c7bde75381a4c03bbe57a447097719ba8f594541d489583502d86631be33", checked := Try.checked }
namespace Rows
def none {H : Type} : Left H := { results := [], args := [] }

/-- 'viaticumlaw13.GeoTells': WHATEVER THE INPUT: true; the input reads as it did. -/
def geoTellsSpec : ChangeSpec := { name := "geoTells", fn := fun _ => fun
  | [d1, d2, d3] => { results := [.lit (.bool true)], args := [d1, d2, d3] }
  | _ => none }
def geoTellsRow : OpenClaim := { program := "ytngjgdikooaknaa", sum := "85a5c7bde75381a4c03bbe57a447097719ba8f594541d489583502d86631be33", func := "viaticum/viaticumlaw13.GeoTells", spec := "geoTells", apart := false }
def GeoTellsSaid : Prop := geoTellsRow.holds Try.pinned (OpenSpec.ofChange geoTellsSpec)

/-- ITS FALSE NEIGHBOUR: 'it returns false'. Refute it at one input. -/
def geoTellsWrong : ChangeSpec := { name := "geoTells", fn := fun _ => fun
  | [d1, d2, d3] => { results := [.lit (.bool false)], args := [d1, d2, d3] }
  | _ => none }
def GeoTellsWrongFalsely : Prop := geoTellsRow.holds Try.pinned (OpenSpec.ofChange geoTellsWrong)

/-- 'viaticumlaw13.GeoRings': WHATEVER THE INPUT: true; the input reads as it did. -/
def geoRingsSpec : ChangeSpec := { name := "geoRings", fn := fun _ => fun
  | [d] => { results := [.lit (.bool true)], args := [d] }
  | _ => none }
def geoRingsRow : OpenClaim := { program := "ytngjgdikooaknaa", sum := "85a5c7bde75381a4c03bbe57a447097719ba8f594541d489583502d86631be33", func := "viaticum/viaticumlaw13.GeoRings", spec := "geoRings", apart := false }
def GeoRingsSaid : Prop := geoRingsRow.holds Try.pinned (OpenSpec.ofChange geoRingsSpec)

/-- ITS FALSE NEIGHBOUR: 'it returns false'. Refute it at one input. -/
def geoRingsWrong : ChangeSpec := { name := "geoRings", fn := fun _ => fun
  | [d] => { results := [.lit (.bool false)], args := [d] }
  | _ => none }
def GeoRingsWrongFalsely : Prop := geoRingsRow.holds Try.pinned (OpenSpec.ofChange geoRingsWrong)

/-- 'viaticumlaw13.GeoFits': WHATEVER THE INPUT: true; the input reads as it did. -/
def geoFitsSpec : ChangeSpec := { name := "geoFits", fn := fun _ => fun
  | [d1, d2, d3] => { results := [.lit (.bool true)], args := [d1, d2, d3] }
  | _ => none }
def geoFitsRow : OpenClaim := { program := "ytngjgdikooaknaa", sum := "85a5c7bde75381a4c03bbe57a447097719ba8f594541d489583502d86631be33", func := "viaticum/viaticumlaw13.GeoFits", spec := "geoFits", apart := false }
def GeoFitsSaid : Prop := geoFitsRow.holds Try.pinned (OpenSpec.ofChange geoFitsSpec)

/-- ITS FALSE NEIGHBOUR: 'it returns false'. Refute it at one input. -/
def geoFitsWrong : ChangeSpec := { name := "geoFits", fn := fun _ => fun
  | [d1, d2, d3] => { results := [.lit (.bool false)], args := [d1, d2, d3] }
  | _ => none }
def GeoFitsWrongFalsely : Prop := geoFitsRow.holds Try.pinned (OpenSpec.ofChange geoFitsWrong)

/- THE SECOND FORM. 'bulk': how many values and letters a reading holds, each counted each time it is reached (what is shared counts as often as it is met; a slice's spare places count too). A statement '..UptoSaid' is the law's where the arguments, and the package variables that the reading takes, are together of bulk at most 1048576: NARROWER than '..Said'. Prove '..Said' where nothing that the law and all that it calls make is longer than what came in: it says more and counts as full. Else prove '..UptoSaid'. A law counts once. -/
mutual
def uptoBulk {H : Type} : DataW H → Nat
  | .lit (.string bytes) => bytes.length + 1
  | .lit _ => 1
  | .nil => 1
  | .ptr d => uptoBulk d + 1
  | .slice elems spare => uptoBulkAll elems + uptoBulkAll spare + 1
  | .agg parts => uptoBulkAll parts + 1
  | .iface _ d => uptoBulk d + 1
  | .map entries => uptoBulkEntries entries + 1
  | .held _ => 1
def uptoBulkAll {H : Type} : List (DataW H) → Nat
  | [] => 0
  | d :: r => uptoBulk d + uptoBulkAll r
def uptoBulkEntries {H : Type} : List (Lit × DataW H) → Nat
  | [] => 0
  | x :: r => uptoBulkEntry x + uptoBulkEntries r
def uptoBulkEntry {H : Type} : Lit × DataW H → Nat
  | (.string bytes, d) => bytes.length + uptoBulk d + 1
  | (_, d) => uptoBulk d + 1
 end
def uptoSmall : (H : Type) → List (DataW H) → Bool := fun _ ds => decide (uptoBulkAll ds ≤ 1048576)
def OpenSpec.upto (s : _root_.Go.ChangeSpec) : _root_.Go.OpenSpec := { _root_.Go.OpenSpec.ofChange s with cond := some uptoSmall }

/-- 'viaticumlaw13.GeoTells', WHERE WHAT IT READS IS OF BULK AT MOST 1048576: true; the input reads as it did. -/
def geoTellsUptoRow : OpenClaim := { program := "ytngjgdikooaknaa", sum := "85a5c7bde75381a4c03bbe57a447097719ba8f594541d489583502d86631be33", func := "viaticum/viaticumlaw13.GeoTells", spec := "geoTells", apart := false, narrowed := true }
def GeoTellsUptoSaid : Prop := geoTellsUptoRow.holds Try.pinned (OpenSpec.upto geoTellsSpec)

/-- 'viaticumlaw13.GeoRings', WHERE WHAT IT READS IS OF BULK AT MOST 1048576: true; the input reads as it did. -/
def geoRingsUptoRow : OpenClaim := { program := "ytngjgdikooaknaa", sum := "85a5c7bde75381a4c03bbe57a447097719ba8f594541d489583502d86631be33", func := "viaticum/viaticumlaw13.GeoRings", spec := "geoRings", apart := false, narrowed := true }
def GeoRingsUptoSaid : Prop := geoRingsUptoRow.holds Try.pinned (OpenSpec.upto geoRingsSpec)

/-- 'viaticumlaw13.GeoFits', WHERE WHAT IT READS IS OF BULK AT MOST 1048576: true; the input reads as it did. -/
def geoFitsUptoRow : OpenClaim := { program := "ytngjgdikooaknaa", sum := "85a5c7bde75381a4c03bbe57a447097719ba8f594541d489583502d86631be33", func := "viaticum/viaticumlaw13.GeoFits", spec := "geoFits", apart := false, narrowed := true }
def GeoFitsUptoSaid : Prop := geoFitsUptoRow.holds Try.pinned (OpenSpec.upto geoFitsSpec)

end Rows
end Go.Proofs.Ytngjgdikooaknaa
