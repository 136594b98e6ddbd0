/-
  Contracts of the program's own functions of layer 4 (floats), as the walks of the statements take them.
-/
import Derived.Test.YtcppcfjejalggaaFloPG
import Derived.Test.YtcppcfjejalggaaFloRefD
set_option linter.unusedSimpArgs false
set_option linter.unusedVariables false
namespace Go.Proofs.Ytcppcfjejalggaa.LP
open Go.RowKit
theorem kind_c (n : Nat) (hn : n < 18446744073709551616) (w : World) : Calls Try.prog 11 #[.float .f64 n] w fun e w' => e = .returned (.int .i64 (fKind n)) ∧ Below w.heap.size w w' :=
  (kind_w n hn w).mono fun _ _ ⟨h, e⟩ => ⟨h, by rw [← e]; exact Below.refl _ _⟩
end Go.Proofs.Ytcppcfjejalggaa.LP
