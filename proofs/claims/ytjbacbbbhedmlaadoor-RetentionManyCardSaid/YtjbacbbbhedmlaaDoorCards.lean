/-
  DERIVED. GIVEN WITH THE SEED: THE CARDS: each row of YtjbacbbbhedmlaaDoorRows.lean that lists a variable, with what it lists TIED to the program's text (the seventh form; the later family's looks); each row that meets fmt, with fmt's text TOLD by the authors' own Lean function (tested against real Go, not proved from fmt's source: count such statements apart). THE CARD IS WHAT COUNTS. Prove the row's statement (the work); the ties are given (YtjbacbbbhedmlaaDoorTie.lean); close each card by the builder's one call (the guide's Derived/Test/ToyasCard.lean, 'card_holds'). Laid BY PROGRAM, IN A SANDBOX (cutbox-door.mjs). By AI agents, Wed Nov 11 2026. No macro, syntax, notation, axiom, sorry.
-/
import Derived.Test.YtjbacbbbhedmlaaDoorRows
import GoSem.ClaimSeven
namespace Go.Proofs.YtjbacbbbhedmlaaDoor
namespace Rows

/-- THE TIED CARD OF 'isobarlaw10.RetentionParses'. -/
def retentionParsesCard : Claim7 := { stood := { row := retentionParsesRow, standIns := [], harness := (true, "ee25197a63e5b660f43c49d0fe6f45cab2f8f76cf27e9de4c51ea8a14907ed36"), looks := false }, kinds := [], alts := [], laidByText := true, laidKinds := [.data, .data, .pinned], laidTests := true, laidLooks := .later }
def RetentionParsesCardSaid : Prop := Claim7.holds Tryd.pinned (.plain (OpenSpec.ofChange retentionParsesSpec)) retentionParsesCard

/-- THE TIED CARD OF 'isobarlaw10.RetentionTogether'. -/
def retentionTogetherCard : Claim7 := { stood := { row := retentionTogetherRow, standIns := [], harness := (true, "ee25197a63e5b660f43c49d0fe6f45cab2f8f76cf27e9de4c51ea8a14907ed36"), looks := false }, kinds := [], alts := [], laidByText := true, laidKinds := [.data, .data, .data, .data, .data, .pinned], laidTests := true, laidLooks := .later }
def RetentionTogetherCardSaid : Prop := Claim7.holds Tryd.pinned (.plain (OpenSpec.ofChange retentionTogetherSpec)) retentionTogetherCard

/-- THE TIED CARD OF 'isobarlaw10.RetentionBack'. -/
def retentionBackCard : Claim7 := { stood := { row := retentionBackRow, standIns := [], harness := (true, "ee25197a63e5b660f43c49d0fe6f45cab2f8f76cf27e9de4c51ea8a14907ed36"), looks := false }, kinds := [], alts := [], laidByText := true, laidKinds := [.data, .data, .data, .data, .data, .pinned], laidTests := true, laidLooks := .later }
def RetentionBackCardSaid : Prop := Claim7.holds Tryd.pinned (.plain (OpenSpec.ofChange retentionBackSpec)) retentionBackCard

/-- THE TIED CARD OF 'isobarlaw10.RetentionMany'. -/
def retentionManyCard : Claim7 := { stood := { row := retentionManyRow, standIns := [], harness := (true, "ee25197a63e5b660f43c49d0fe6f45cab2f8f76cf27e9de4c51ea8a14907ed36"), looks := false }, kinds := [], alts := [], laidByText := true, laidKinds := [.data, .data, .pinned], laidTests := true, laidLooks := .later }
def RetentionManyCardSaid : Prop := Claim7.holds Tryd.pinned (.plain (OpenSpec.ofChange retentionManySpec)) retentionManyCard

/-- THE SECOND FORM's CARD OF 'isobarlaw10.RetentionParses'. -/
def retentionParsesUptoCard : Claim7 := { stood := { row := retentionParsesUptoRow, standIns := [], harness := (true, "ee25197a63e5b660f43c49d0fe6f45cab2f8f76cf27e9de4c51ea8a14907ed36"), looks := false }, kinds := [], alts := [], laidByText := true, laidKinds := [.data, .data, .pinned], laidTests := true, laidLooks := .later }
def RetentionParsesUptoCardSaid : Prop := Claim7.holds Tryd.pinned (.plain (OpenSpec.upto retentionParsesSpec)) retentionParsesUptoCard

/-- THE SECOND FORM's CARD OF 'isobarlaw10.RetentionTogether'. -/
def retentionTogetherUptoCard : Claim7 := { stood := { row := retentionTogetherUptoRow, standIns := [], harness := (true, "ee25197a63e5b660f43c49d0fe6f45cab2f8f76cf27e9de4c51ea8a14907ed36"), looks := false }, kinds := [], alts := [], laidByText := true, laidKinds := [.data, .data, .data, .data, .data, .pinned], laidTests := true, laidLooks := .later }
def RetentionTogetherUptoCardSaid : Prop := Claim7.holds Tryd.pinned (.plain (OpenSpec.upto retentionTogetherSpec)) retentionTogetherUptoCard

/-- THE SECOND FORM's CARD OF 'isobarlaw10.RetentionBack'. -/
def retentionBackUptoCard : Claim7 := { stood := { row := retentionBackUptoRow, standIns := [], harness := (true, "ee25197a63e5b660f43c49d0fe6f45cab2f8f76cf27e9de4c51ea8a14907ed36"), looks := false }, kinds := [], alts := [], laidByText := true, laidKinds := [.data, .data, .data, .data, .data, .pinned], laidTests := true, laidLooks := .later }
def RetentionBackUptoCardSaid : Prop := Claim7.holds Tryd.pinned (.plain (OpenSpec.upto retentionBackSpec)) retentionBackUptoCard

/-- THE SECOND FORM's CARD OF 'isobarlaw10.RetentionMany'. -/
def retentionManyUptoCard : Claim7 := { stood := { row := retentionManyUptoRow, standIns := [], harness := (true, "ee25197a63e5b660f43c49d0fe6f45cab2f8f76cf27e9de4c51ea8a14907ed36"), looks := false }, kinds := [], alts := [], laidByText := true, laidKinds := [.data, .data, .pinned], laidTests := true, laidLooks := .later }
def RetentionManyUptoCardSaid : Prop := Claim7.holds Tryd.pinned (.plain (OpenSpec.upto retentionManySpec)) retentionManyUptoCard
end Rows
end Go.Proofs.YtjbacbbbhedmlaaDoor
