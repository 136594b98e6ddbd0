/-
  Contracts of the program's functions of layer 15: piece.texts.
-/
import Derived.Test.YtkgmglncdiccfaaDoorGlbTx
import Derived.Test.YtkgmglncdiccfaaDoorGlbPC
import Derived.Test.YtkgmglncdiccfaaDoorGlbPG
set_option linter.unusedSimpArgs false
set_option linter.unusedVariables false
namespace Go.Proofs.YtkgmglncdiccfaaDoor.GP
open Go.RowKit
end Go.Proofs.YtkgmglncdiccfaaDoor.GP
