/-
  DERIVED. GIVEN WITH THE SEED: THE CARDS: each row of YtgdjmbekamdlgaaDoorRows.lean that lists a variable, with what it lists TIED to the program's text (the seventh form; the later family's looks); each row that meets fmt, with fmt's text TOLD by the authors' own Lean function (tested against real Go, not proved from fmt's source: count such statements apart). THE CARD IS WHAT COUNTS. Prove the row's statement (the work); the ties are given (YtgdjmbekamdlgaaDoorTie.lean); close each card by the builder's one call (the guide's Derived/Test/ToyasCard.lean, 'card_holds'). Laid BY PROGRAM, IN A SANDBOX (cutbox-door.mjs). By AI agents, Wed Nov 11 2026. No macro, syntax, notation, axiom, sorry.
-/
import Derived.Test.YtgdjmbekamdlgaaDoorRows
import GoSem.ClaimSeven
namespace Go.Proofs.YtgdjmbekamdlgaaDoor
namespace Rows

/-- THE TIED CARD OF 'isobarlaw11.ConfigParses'. -/
def configParsesCard : Claim7 := { stood := { row := configParsesRow, standIns := [], harness := (true, "a77d9e1fbd156a38ade13eb6ebec40e5a95bbbefcfda0d68128d4b6926b97504"), looks := false }, kinds := [], alts := [], laidByText := true, laidKinds := [.data, .pinned], laidTests := true, laidLooks := .later }
def ConfigParsesCardSaid : Prop := Claim7.holds Tryd.pinned (.plain (OpenSpec.ofChange configParsesSpec)) configParsesCard

/-- THE TIED CARD OF 'isobarlaw11.ConfigIdle'. -/
def configIdleCard : Claim7 := { stood := { row := configIdleRow, standIns := [], harness := (true, "a77d9e1fbd156a38ade13eb6ebec40e5a95bbbefcfda0d68128d4b6926b97504"), looks := false }, kinds := [], alts := [], laidByText := true, laidKinds := [.data, .pinned], laidTests := true, laidLooks := .later }
def ConfigIdleCardSaid : Prop := Claim7.holds Tryd.pinned (.plain (OpenSpec.ofChange configIdleSpec)) configIdleCard

/-- THE SECOND FORM's CARD OF 'isobarlaw11.ConfigParses'. -/
def configParsesUptoCard : Claim7 := { stood := { row := configParsesUptoRow, standIns := [], harness := (true, "a77d9e1fbd156a38ade13eb6ebec40e5a95bbbefcfda0d68128d4b6926b97504"), looks := false }, kinds := [], alts := [], laidByText := true, laidKinds := [.data, .pinned], laidTests := true, laidLooks := .later }
def ConfigParsesUptoCardSaid : Prop := Claim7.holds Tryd.pinned (.plain (OpenSpec.upto configParsesSpec)) configParsesUptoCard

/-- THE SECOND FORM's CARD OF 'isobarlaw11.ConfigIdle'. -/
def configIdleUptoCard : Claim7 := { stood := { row := configIdleUptoRow, standIns := [], harness := (true, "a77d9e1fbd156a38ade13eb6ebec40e5a95bbbefcfda0d68128d4b6926b97504"), looks := false }, kinds := [], alts := [], laidByText := true, laidKinds := [.data, .pinned], laidTests := true, laidLooks := .later }
def ConfigIdleUptoCardSaid : Prop := Claim7.holds Tryd.pinned (.plain (OpenSpec.upto configIdleSpec)) configIdleUptoCard
end Rows
end Go.Proofs.YtgdjmbekamdlgaaDoor
