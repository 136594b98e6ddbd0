/-
  DERIVED. GIVEN WITH THE SEED: THE CARDS: each row of YtkgmglncdiccfaaDoorRows.lean that lists a variable, with what it lists TIED to the program's text (the seventh form; the later family's looks); each row that meets fmt, with fmt's text TOLD by the authors' own Lean function (tested against real Go, not proved from fmt's source: count such statements apart). THE CARD IS WHAT COUNTS. Prove the row's statement (the work); the ties are given (YtkgmglncdiccfaaDoorTie.lean); close each card by the builder's one call (the guide's Derived/Test/ToyasCard.lean, 'card_holds'). Laid BY PROGRAM, IN A SANDBOX (cutbox-door.mjs). By AI agents, Wed Nov 11 2026. No macro, syntax, notation, axiom, sorry.
-/
import Derived.Test.YtkgmglncdiccfaaDoorRows
import GoSem.ClaimSeven
namespace Go.Proofs.YtkgmglncdiccfaaDoor
namespace Rows

/-- THE TIED CARD OF 'isobarlaw16.TrailNames'. -/
def trailNamesCard : Claim7 := { stood := { row := trailNamesRow, standIns := [], harness := (true, "c3e88027fc10190e19ffd7bcf4648f2bcd963da65a0052981b04a28ac0ea2f9e"), looks := false }, kinds := [], alts := [], laidByText := true, laidKinds := [.data, .pinned], laidTests := true, laidLooks := .later }
def TrailNamesCardSaid : Prop := Claim7.holds Tryd.pinned (.plain (OpenSpec.ofChange trailNamesSpec)) trailNamesCard

/-- THE TIED CARD OF 'isobarlaw16.TrailHeads'. -/
def trailHeadsCard : Claim7 := { stood := { row := trailHeadsRow, standIns := [], harness := (true, "c3e88027fc10190e19ffd7bcf4648f2bcd963da65a0052981b04a28ac0ea2f9e"), looks := false }, kinds := [], alts := [], laidByText := true, laidKinds := [.data, .pinned], laidTests := true, laidLooks := .later }
def TrailHeadsCardSaid : Prop := Claim7.holds Tryd.pinned (.plain (OpenSpec.ofChange trailHeadsSpec)) trailHeadsCard

/-- THE SECOND FORM's CARD OF 'isobarlaw16.TrailNames'. -/
def trailNamesUptoCard : Claim7 := { stood := { row := trailNamesUptoRow, standIns := [], harness := (true, "c3e88027fc10190e19ffd7bcf4648f2bcd963da65a0052981b04a28ac0ea2f9e"), looks := false }, kinds := [], alts := [], laidByText := true, laidKinds := [.data, .pinned], laidTests := true, laidLooks := .later }
def TrailNamesUptoCardSaid : Prop := Claim7.holds Tryd.pinned (.plain (OpenSpec.upto trailNamesSpec)) trailNamesUptoCard

/-- THE SECOND FORM's CARD OF 'isobarlaw16.TrailHeads'. -/
def trailHeadsUptoCard : Claim7 := { stood := { row := trailHeadsUptoRow, standIns := [], harness := (true, "c3e88027fc10190e19ffd7bcf4648f2bcd963da65a0052981b04a28ac0ea2f9e"), looks := false }, kinds := [], alts := [], laidByText := true, laidKinds := [.data, .pinned], laidTests := true, laidLooks := .later }
def TrailHeadsUptoCardSaid : Prop := Claim7.holds Tryd.pinned (.plain (OpenSpec.upto trailHeadsSpec)) trailHeadsUptoCard
end Rows
end Go.Proofs.YtkgmglncdiccfaaDoor
