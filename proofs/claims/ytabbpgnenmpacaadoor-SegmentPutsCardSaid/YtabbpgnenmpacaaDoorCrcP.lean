/-
  Contracts of the program's functions of layer 5: Sum, Update (Put: PB; Check: PC).
-/
import Derived.Test.YtabbpgnenmpacaaDoorCrcPC
set_option linter.unusedSimpArgs false
set_option linter.unusedVariables false
namespace Go.Proofs.YtabbpgnenmpacaaDoor.CP
open Go.RowKit
open CR (below_next own_ge u8_wrap)
theorem sum_c (v : Value) (l : List Nat) (hl : l.length ≤ 100000) (hb : Bytes l) (w : World) (g : G w) (h : ByOut w v l) :
    Calls Tryd.prog 48 #[v] w fun e w' => e = .returned (.int .u32 (cSum l : Nat)) ∧ Below w.heap.size w w' :=
  (sum_q v l hl hb w g h).mono fun e w' ⟨he, hw⟩ => ⟨he, hw ▸ Below.refl _ _⟩
theorem upd_c (s : Nat) (hs : s < 4294967296) (v : Value) (l : List Nat) (hl : l.length ≤ 100000) (hb : Bytes l) (w : World) (g : G w) (h : ByOut w v l) :
    Calls Tryd.prog 52 #[.int .u32 (s : Nat), v] w fun e w' => e = .returned (.int .u32 (cNot (cRun (cNot s) l) : Nat)) ∧ Below w.heap.size w w' :=
  (upd_q s hs v l hl hb w g h).mono fun e w' ⟨he, hw⟩ => ⟨he, hw ▸ Below.refl _ _⟩
end Go.Proofs.YtabbpgnenmpacaaDoor.CP
