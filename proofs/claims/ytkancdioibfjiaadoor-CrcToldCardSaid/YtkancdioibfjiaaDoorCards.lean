/-
  DERIVED. GIVEN WITH THE SEED: THE CARDS: each row of YtkancdioibfjiaaDoorRows.lean that lists a variable, with what it lists TIED to the program's text (the seventh form; the later family's looks); each row that meets fmt, with fmt's text TOLD by the authors' own Lean function (tested against real Go, not proved from fmt's source: count such statements apart). THE CARD IS WHAT COUNTS. Prove the row's statement (the work); the ties are given (YtkancdioibfjiaaDoorTie.lean); close each card by the builder's one call (the guide's Derived/Test/ToyasCard.lean, 'card_holds'). Laid BY PROGRAM, IN A SANDBOX (cutbox-door.mjs). By AI agents, Wed Nov 11 2026. No macro, syntax, notation, axiom, sorry.
-/
import Derived.Test.YtkancdioibfjiaaDoorRows
import GoSem.ClaimSeven
namespace Go.Proofs.YtkancdioibfjiaaDoor
namespace Rows

/-- THE TIED CARD OF 'isobarlaw05.CrcSums'. -/
def crcSumsCard : Claim7 := { stood := { row := crcSumsRow, standIns := [], harness := (true, "65c857f8ec16fcdac1541cd4ca6c995de9dc924c44bea94f72608422688d9b3e"), looks := false }, kinds := [], alts := [], laidByText := true, laidKinds := [.data], laidTests := true, laidLooks := .later }
def CrcSumsCardSaid : Prop := Claim7.holds Tryd.pinned (.plain (OpenSpec.ofChange crcSumsSpec)) crcSumsCard

/-- THE TIED CARD OF 'isobarlaw05.CrcPuts'. -/
def crcPutsCard : Claim7 := { stood := { row := crcPutsRow, standIns := [], harness := (true, "65c857f8ec16fcdac1541cd4ca6c995de9dc924c44bea94f72608422688d9b3e"), looks := false }, kinds := [], alts := [], laidByText := true, laidKinds := [.data], laidTests := true, laidLooks := .later }
def CrcPutsCardSaid : Prop := Claim7.holds Tryd.pinned (.plain (OpenSpec.ofChange crcPutsSpec)) crcPutsCard

/-- THE TIED CARD OF 'isobarlaw05.CrcTold'. -/
def crcToldCard : Claim7 := { stood := { row := crcToldRow, standIns := [], harness := (true, "65c857f8ec16fcdac1541cd4ca6c995de9dc924c44bea94f72608422688d9b3e"), looks := false }, kinds := [], alts := [], laidByText := true, laidKinds := [.data], laidTests := true, laidLooks := .later }
def CrcToldCardSaid : Prop := Claim7.holds Tryd.pinned (.plain (OpenSpec.ofChange crcToldSpec)) crcToldCard

/-- THE SECOND FORM's CARD OF 'isobarlaw05.CrcSums'. -/
def crcSumsUptoCard : Claim7 := { stood := { row := crcSumsUptoRow, standIns := [], harness := (true, "65c857f8ec16fcdac1541cd4ca6c995de9dc924c44bea94f72608422688d9b3e"), looks := false }, kinds := [], alts := [], laidByText := true, laidKinds := [.data], laidTests := true, laidLooks := .later }
def CrcSumsUptoCardSaid : Prop := Claim7.holds Tryd.pinned (.plain (OpenSpec.upto crcSumsSpec)) crcSumsUptoCard

/-- THE SECOND FORM's CARD OF 'isobarlaw05.CrcPuts'. -/
def crcPutsUptoCard : Claim7 := { stood := { row := crcPutsUptoRow, standIns := [], harness := (true, "65c857f8ec16fcdac1541cd4ca6c995de9dc924c44bea94f72608422688d9b3e"), looks := false }, kinds := [], alts := [], laidByText := true, laidKinds := [.data], laidTests := true, laidLooks := .later }
def CrcPutsUptoCardSaid : Prop := Claim7.holds Tryd.pinned (.plain (OpenSpec.upto crcPutsSpec)) crcPutsUptoCard

/-- THE SECOND FORM's CARD OF 'isobarlaw05.CrcTold'. -/
def crcToldUptoCard : Claim7 := { stood := { row := crcToldUptoRow, standIns := [], harness := (true, "65c857f8ec16fcdac1541cd4ca6c995de9dc924c44bea94f72608422688d9b3e"), looks := false }, kinds := [], alts := [], laidByText := true, laidKinds := [.data], laidTests := true, laidLooks := .later }
def CrcToldUptoCardSaid : Prop := Claim7.holds Tryd.pinned (.plain (OpenSpec.upto crcToldSpec)) crcToldUptoCard
end Rows
end Go.Proofs.YtkancdioibfjiaaDoor
