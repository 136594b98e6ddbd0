/-
  DERIVED. GIVEN WITH THE SEED: THE CARDS: each row of YtbfbjalnahngjaaGreatDoorRows.lean that lists a variable, with what it lists TIED to the program's text (the seventh form; the later family's looks); each row that meets fmt, with fmt's text TOLD by the authors' own Lean function (tested against real Go, not proved from fmt's source: count such statements apart). THE CARD IS WHAT COUNTS. Prove the row's statement (the work); the ties are given (YtbfbjalnahngjaaGreatDoorTie.lean); close each card by the builder's one call (the guide's Derived/Test/ToyasCard.lean, 'card_holds'). Laid BY PROGRAM, IN A SANDBOX (cutbox-door.mjs). By AI agents, Wed Nov 11 2026. No macro, syntax, notation, axiom, sorry.
-/
import Derived.Test.YtbfbjalnahngjaaGreatDoorRows
import GoSem.ClaimSeven
namespace Go.Proofs.YtbfbjalnahngjaaGreatDoor
namespace Rows

/-- THE TIED CARD OF 'isobarlaw17.TriePlays'. -/
def triePlaysCard : Claim7 := { stood := { row := triePlaysRow, standIns := [], harness := (true, "c38c728fa09efdcb034f6bfef65f58ffb448d221dd4e1e88b0c12e4245611bc9"), looks := false }, kinds := [], alts := [], laidByText := true, laidKinds := [.data, .pinned], laidTests := true, laidLooks := .later }
def TriePlaysCardSaid : Prop := Claim7.holds Tryz.pinned (.plain (OpenSpec.ofChange triePlaysSpec)) triePlaysCard

/-- THE TIED CARD OF 'isobarlaw17.TrieBuilds'. -/
def trieBuildsCard : Claim7 := { stood := { row := trieBuildsRow, standIns := [], harness := (true, "c38c728fa09efdcb034f6bfef65f58ffb448d221dd4e1e88b0c12e4245611bc9"), looks := false }, kinds := [], alts := [], laidByText := true, laidKinds := [.data, .pinned], laidTests := true, laidLooks := .later }
def TrieBuildsCardSaid : Prop := Claim7.holds Tryz.pinned (.plain (OpenSpec.ofChange trieBuildsSpec)) trieBuildsCard

/-- THE TIED CARD OF 'isobarlaw17.TrieJust'. -/
def trieJustCard : Claim7 := { stood := { row := trieJustRow, standIns := [], harness := (true, "c38c728fa09efdcb034f6bfef65f58ffb448d221dd4e1e88b0c12e4245611bc9"), looks := false }, kinds := [], alts := [], laidByText := true, laidKinds := [.data, .pinned], laidTests := true, laidLooks := .later }
def TrieJustCardSaid : Prop := Claim7.holds Tryz.pinned (.plain (OpenSpec.ofChange trieJustSpec)) trieJustCard

/-- THE TIED CARD OF 'isobarlaw17.TrieNone'. -/
def trieNoneCard : Claim7 := { stood := { row := trieNoneRow, standIns := [], harness := (true, "c38c728fa09efdcb034f6bfef65f58ffb448d221dd4e1e88b0c12e4245611bc9"), looks := false }, kinds := [], alts := [], laidByText := true, laidKinds := [.data, .pinned], laidTests := true, laidLooks := .later }
def TrieNoneCardSaid : Prop := Claim7.holds Tryz.pinned (.plain (OpenSpec.ofChange trieNoneSpec)) trieNoneCard

/-- THE SECOND FORM's CARD OF 'isobarlaw17.TriePlays'. -/
def triePlaysUptoCard : Claim7 := { stood := { row := triePlaysUptoRow, standIns := [], harness := (true, "c38c728fa09efdcb034f6bfef65f58ffb448d221dd4e1e88b0c12e4245611bc9"), looks := false }, kinds := [], alts := [], laidByText := true, laidKinds := [.data, .pinned], laidTests := true, laidLooks := .later }
def TriePlaysUptoCardSaid : Prop := Claim7.holds Tryz.pinned (.plain (OpenSpec.upto triePlaysSpec)) triePlaysUptoCard

/-- THE SECOND FORM's CARD OF 'isobarlaw17.TrieBuilds'. -/
def trieBuildsUptoCard : Claim7 := { stood := { row := trieBuildsUptoRow, standIns := [], harness := (true, "c38c728fa09efdcb034f6bfef65f58ffb448d221dd4e1e88b0c12e4245611bc9"), looks := false }, kinds := [], alts := [], laidByText := true, laidKinds := [.data, .pinned], laidTests := true, laidLooks := .later }
def TrieBuildsUptoCardSaid : Prop := Claim7.holds Tryz.pinned (.plain (OpenSpec.upto trieBuildsSpec)) trieBuildsUptoCard

/-- THE SECOND FORM's CARD OF 'isobarlaw17.TrieJust'. -/
def trieJustUptoCard : Claim7 := { stood := { row := trieJustUptoRow, standIns := [], harness := (true, "c38c728fa09efdcb034f6bfef65f58ffb448d221dd4e1e88b0c12e4245611bc9"), looks := false }, kinds := [], alts := [], laidByText := true, laidKinds := [.data, .pinned], laidTests := true, laidLooks := .later }
def TrieJustUptoCardSaid : Prop := Claim7.holds Tryz.pinned (.plain (OpenSpec.upto trieJustSpec)) trieJustUptoCard

/-- THE SECOND FORM's CARD OF 'isobarlaw17.TrieNone'. -/
def trieNoneUptoCard : Claim7 := { stood := { row := trieNoneUptoRow, standIns := [], harness := (true, "c38c728fa09efdcb034f6bfef65f58ffb448d221dd4e1e88b0c12e4245611bc9"), looks := false }, kinds := [], alts := [], laidByText := true, laidKinds := [.data, .pinned], laidTests := true, laidLooks := .later }
def TrieNoneUptoCardSaid : Prop := Claim7.holds Tryz.pinned (.plain (OpenSpec.upto trieNoneSpec)) trieNoneUptoCard
end Rows
end Go.Proofs.YtbfbjalnahngjaaGreatDoor
