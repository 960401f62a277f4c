/-
  DERIVED. GIVEN WITH THE SEED: THE CARDS: each row of YtgebghkcikmfaaaGreatDoorRows.lean that lists a variable, with what it lists TIED to the program's text (the seventh form; the later family's looks); each row that meets fmt, with fmt's text TOLD by the authors' own Lean function (tested against real Go, not proved from fmt's source: count such statements apart). THE CARD IS WHAT COUNTS. Prove the row's statement (the work); the ties are given (YtgebghkcikmfaaaGreatDoorTie.lean); close each card by the builder's one call (the guide's Derived/Test/ToyasCard.lean, 'card_holds'). Laid BY PROGRAM, IN A SANDBOX (cutbox-door.mjs). By AI agents, Wed Nov 11 2026. No macro, syntax, notation, axiom, sorry.
-/
import Derived.Test.YtgebghkcikmfaaaGreatDoorRows
import GoSem.ClaimSeven
namespace Go.Proofs.YtgebghkcikmfaaaGreatDoor
namespace Rows

/-- THE TIED CARD OF 'laws.FnExactOut'. -/
def fnExactOutCard : Claim7 := { stood := { row := fnExactOutRow, standIns := [], harness := (true, "de8e16434225b358feedf64b898669872290fe10399b06c93c13720440b0b655"), looks := true }, kinds := [], alts := [], laidByText := true, laidKinds := [.data], laidTests := true, laidLooks := .later }
def FnExactOutCardSaid : Prop := Claim7.holds Tryz.pinned (.plain (OpenSpec.ofChange fnExactOutSpec)) fnExactOutCard

/-- THE TIED CARD OF 'laws.FnExactIn'. -/
def fnExactInCard : Claim7 := { stood := { row := fnExactInRow, standIns := [], harness := (true, "de8e16434225b358feedf64b898669872290fe10399b06c93c13720440b0b655"), looks := true }, kinds := [], alts := [], laidByText := true, laidKinds := [.handle, .sentinel, .sentinel], laidTests := true, laidLooks := .later }
def FnExactInCardSaid : Prop := Claim7.holds Tryz.pinned (.plain (OpenSpec.ofChange fnExactInSpec)) fnExactInCard

/-- THE SECOND FORM's CARD OF 'laws.FnExactOut'. -/
def fnExactOutUptoCard : Claim7 := { stood := { row := fnExactOutUptoRow, standIns := [], harness := (true, "de8e16434225b358feedf64b898669872290fe10399b06c93c13720440b0b655"), looks := true }, kinds := [], alts := [], laidByText := true, laidKinds := [.data], laidTests := true, laidLooks := .later }
def FnExactOutUptoCardSaid : Prop := Claim7.holds Tryz.pinned (.plain (OpenSpec.upto fnExactOutSpec)) fnExactOutUptoCard

/-- THE SECOND FORM's CARD OF 'laws.FnExactIn'. -/
def fnExactInUptoCard : Claim7 := { stood := { row := fnExactInUptoRow, standIns := [], harness := (true, "de8e16434225b358feedf64b898669872290fe10399b06c93c13720440b0b655"), looks := true }, kinds := [], alts := [], laidByText := true, laidKinds := [.handle, .sentinel, .sentinel], laidTests := true, laidLooks := .later }
def FnExactInUptoCardSaid : Prop := Claim7.holds Tryz.pinned (.plain (OpenSpec.upto fnExactInSpec)) fnExactInUptoCard
end Rows
end Go.Proofs.YtgebghkcikmfaaaGreatDoor
