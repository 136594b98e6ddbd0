/-
  Contracts of the document's own functions of layer 13 (isobarref13): a slot is set.
-/
import Derived.Test.YtkgajlklhcmmcaaRinRC
set_option linter.unusedSimpArgs false
set_option linter.unusedVariables false
namespace Go.Proofs.Ytkgajlklhcmmcaa.IR
open Go.RowKit IP
end Go.Proofs.Ytkgajlklhcmmcaa.IR
