/-
  Contracts of the document's own functions of layer 9: class.
-/
import Derived.Test.YtodigfdhhndboaaNdlRCa
import Derived.Test.YtodigfdhhndboaaNdlRCb
set_option linter.unusedSimpArgs false
set_option linter.unusedVariables false
namespace Go.Proofs.Ytodigfdhhndboaa.NR
open Go.RowKit
theorem class_c (p : ByteArray) (k : Nat) (hk : k ≤ p.size) (hp : p.size ≤ 1000) (w : World) :
    Calls Try.prog 25 #[.string p, .int .i64 (k : Nat)] w fun e w' => ∃ (a0 a1 a2 a3 k2 : Nat) (ok : Bool), e = .returned (.tuple #[.agg #[.int .u64 (a0 : Nat), .int .u64 (a1 : Nat), .int .u64 (a2 : Nat), .int .u64 (a3 : Nat), .bool false], .int .i64 (k2 : Nat), .bool ok]) ∧
      ClsI ((bs p).drop k) a0 a1 a2 a3 ((bs p).drop k2) ok ∧ (ok = true → k2 ≤ p.size) ∧ (a0 < 18446744073709551616 ∧ a1 < 18446744073709551616 ∧ a2 < 18446744073709551616 ∧ a3 < 18446744073709551616) ∧ Below w.heap.size w w' := by
  by_cases hks : k < p.size
  · obtain ⟨c, hd, e0, hc⟩ := bs_at hks
    by_cases h94 : c = 94
    · subst h94
      exact class_y p k hk hp hks hd e0 w
    · exact class_n p k hk hp hks c h94 hd e0 w
  · exact class_e p k hk hp hks w
end Go.Proofs.Ytodigfdhhndboaa.NR
