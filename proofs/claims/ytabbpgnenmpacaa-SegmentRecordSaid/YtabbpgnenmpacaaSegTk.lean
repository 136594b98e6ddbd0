/-
  Contracts of the document's own functions of layer 8 (isobarref08): Take, of any bytes.
-/
import Derived.Test.YtabbpgnenmpacaaSegTkB
import Derived.Test.YtabbpgnenmpacaaSegTkC
import Derived.Test.YtabbpgnenmpacaaSegTkD
import Derived.Test.YtabbpgnenmpacaaSegTkE
import Derived.Test.YtabbpgnenmpacaaSegTkF
set_option linter.unusedSimpArgs false
set_option linter.unusedVariables false
namespace Go.Proofs.Ytabbpgnenmpacaa.SR
open Go Go.RowKit
open CR (below_next own_ge u8_wrap)
open SP (rc_plain rgsOf_length rgsOf_snoc nOf_one i64_small rRead_ok rTake_read rRead)
theorem take_c (v : Value) (l : List Nat) (hb : Bytes l) (hl : l.length ≤ 9223372036854775807) (w : World) (ho : ByOut w v l) :
    Calls Try.prog 8 #[v] w fun e w' => ∃ v', e = .returned (.tuple #[v', .int .i64 (rTake l).2]) ∧ RcNew w.heap.size w' v' (rTake l).1 ∧ Below w.heap.size w w' := by
  by_cases h0 : l = []
  · exact take_empty v l hb hl w ho h0
  · by_cases h1 : l.headD 0 = 1
    · by_cases hs : l.length < 9 + nOf 2 (l.drop 1)
      · exact take_short v l hb hl w ho h0 h1 hs
      · exact take_main v l hb hl w ho h0 h1 (by omega)
    · by_cases h2 : l.headD 0 = 2
      · exact take_two v l hb hl w ho h0 h2
      · by_cases h3 : l.headD 0 = 3
        · exact take_three v l hb hl w ho h0 h3
        · exact take_other v l hb hl w ho h0 (by omega)
end Go.Proofs.Ytabbpgnenmpacaa.SR
