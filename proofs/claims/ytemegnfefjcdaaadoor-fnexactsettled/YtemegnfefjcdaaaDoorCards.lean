/-
  DERIVED. GIVEN WITH THE SEED: THE CARDS: each row of YtemegnfefjcdaaaDoorRows.lean that lists a variable, with what it lists TIED to the program's text (the seventh form; the later family's looks); each row that meets fmt, with fmt's text TOLD by the authors' own Lean function (tested against real Go, not proved from fmt's source: count such statements apart). THE CARD IS WHAT COUNTS. Prove the row's statement (the work); the ties are given (YtemegnfefjcdaaaDoorTie.lean); close each card by the builder's one call (the guide's Derived/Test/ToyasCard.lean, 'card_holds'). Laid BY PROGRAM, IN A SANDBOX (cutbox-door.mjs). By AI agents, Wed Nov 11 2026. No macro, syntax, notation, axiom, sorry.
-/
import Derived.Test.YtemegnfefjcdaaaDoorRows
import GoSem.ClaimSeven
namespace Go.Proofs.YtemegnfefjcdaaaDoor
namespace Rows

/-- THE TIED CARD OF 'laws.FnSteers'. -/
def fnSteersCard : Claim7 := { stood := { row := fnSteersRow, standIns := [], harness := (true, "185f8a12049275ad95c24f75a41216b7b527aec588badfeffc448d0e815f04f2"), looks := false }, kinds := [], alts := [], laidByText := true, laidKinds := [.data], laidTests := true, laidLooks := .later }
def FnSteersCardSaid : Prop := Claim7.holds Tryd.pinned (.plain (OpenSpec.ofChange fnSteersSpec)) fnSteersCard

/-- THE TIED CARD OF 'laws.FnSettled'. -/
def fnSettledCard : Claim7 := { stood := { row := fnSettledRow, standIns := [], harness := (true, "185f8a12049275ad95c24f75a41216b7b527aec588badfeffc448d0e815f04f2"), looks := false }, kinds := [], alts := [], laidByText := true, laidKinds := [.data], laidTests := true, laidLooks := .later }
def FnSettledCardSaid : Prop := Claim7.holds Tryd.pinned (.plain (OpenSpec.ofChange fnSettledSpec)) fnSettledCard

/-- THE TIED CARD OF 'laws.FnExactStirred'. -/
def fnExactStirredCard : Claim7 := { stood := { row := fnExactStirredRow, standIns := [], harness := (true, "185f8a12049275ad95c24f75a41216b7b527aec588badfeffc448d0e815f04f2"), looks := false }, kinds := [], alts := [], laidByText := true, laidKinds := [.data], laidTests := true, laidLooks := .later }
def FnExactStirredCardSaid : Prop := Claim7.holds Tryd.pinned (.plain (OpenSpec.ofChange fnExactStirredSpec)) fnExactStirredCard

/-- THE TIED CARD OF 'laws.FnExactSettled'. -/
def fnExactSettledCard : Claim7 := { stood := { row := fnExactSettledRow, standIns := [], harness := (true, "185f8a12049275ad95c24f75a41216b7b527aec588badfeffc448d0e815f04f2"), looks := false }, kinds := [], alts := [], laidByText := true, laidKinds := [.data], laidTests := true, laidLooks := .later }
def FnExactSettledCardSaid : Prop := Claim7.holds Tryd.pinned (.plain (OpenSpec.ofChange fnExactSettledSpec)) fnExactSettledCard

/-- THE SECOND FORM's CARD OF 'laws.FnSteers'. -/
def fnSteersUptoCard : Claim7 := { stood := { row := fnSteersUptoRow, standIns := [], harness := (true, "185f8a12049275ad95c24f75a41216b7b527aec588badfeffc448d0e815f04f2"), looks := false }, kinds := [], alts := [], laidByText := true, laidKinds := [.data], laidTests := true, laidLooks := .later }
def FnSteersUptoCardSaid : Prop := Claim7.holds Tryd.pinned (.plain (OpenSpec.upto fnSteersSpec)) fnSteersUptoCard

/-- THE SECOND FORM's CARD OF 'laws.FnSettled'. -/
def fnSettledUptoCard : Claim7 := { stood := { row := fnSettledUptoRow, standIns := [], harness := (true, "185f8a12049275ad95c24f75a41216b7b527aec588badfeffc448d0e815f04f2"), looks := false }, kinds := [], alts := [], laidByText := true, laidKinds := [.data], laidTests := true, laidLooks := .later }
def FnSettledUptoCardSaid : Prop := Claim7.holds Tryd.pinned (.plain (OpenSpec.upto fnSettledSpec)) fnSettledUptoCard

/-- THE SECOND FORM's CARD OF 'laws.FnExactStirred'. -/
def fnExactStirredUptoCard : Claim7 := { stood := { row := fnExactStirredUptoRow, standIns := [], harness := (true, "185f8a12049275ad95c24f75a41216b7b527aec588badfeffc448d0e815f04f2"), looks := false }, kinds := [], alts := [], laidByText := true, laidKinds := [.data], laidTests := true, laidLooks := .later }
def FnExactStirredUptoCardSaid : Prop := Claim7.holds Tryd.pinned (.plain (OpenSpec.upto fnExactStirredSpec)) fnExactStirredUptoCard

/-- THE SECOND FORM's CARD OF 'laws.FnExactSettled'. -/
def fnExactSettledUptoCard : Claim7 := { stood := { row := fnExactSettledUptoRow, standIns := [], harness := (true, "185f8a12049275ad95c24f75a41216b7b527aec588badfeffc448d0e815f04f2"), looks := false }, kinds := [], alts := [], laidByText := true, laidKinds := [.data], laidTests := true, laidLooks := .later }
def FnExactSettledUptoCardSaid : Prop := Claim7.holds Tryd.pinned (.plain (OpenSpec.upto fnExactSettledSpec)) fnExactSettledUptoCard
end Rows
end Go.Proofs.YtemegnfefjcdaaaDoor
