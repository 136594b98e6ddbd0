/-
  What sums want of a world: their table lies as the program's text lays it. It is kept by whatever a walk does.
-/
import Derived.Test.YtabbpgnenmpacaaDoorCrcNib
import Derived.Test.YtabbpgnenmpacaaDoorByRow
import Derived.Test.YtabbpgnenmpacaaDoorProg
import Derived.Lib.LaidTab
import Derived.Lib.SmallJoins
set_option linter.unusedSimpArgs false
set_option linter.unusedVariables false
namespace Go.Proofs.YtabbpgnenmpacaaDoor
open Go.RowKit
structure G (w : World) : Prop where
  tab : Lib.TabIs Tryd.prog w "isobar/crc.fallen" .u32 nibTab
theorem g_tab : Tryd.prog.globalNamed "isobar/crc.fallen" = some 0 := by kernel_rfl
theorem G.below {w w' : World} (h : G w) (hb : Below w.heap.size w w') : G w' := ⟨Joins.tab_stays g_tab h.tab hb (Nat.le_refl _)⟩
theorem G.alloc {w : World} (h : G w) (o : Obj) : G (w.alloc o) := h.below ((Below.refl _ _).alloc (Nat.le_refl _) o)
theorem G.drew {w : World} (h : G w) : G w.drew := h.below (Below.refl _ _).drew
theorem G.nib {w : World} (h : G w) (k : Nat) (hk : k < 16) : w.cell? ⟨0, k, none⟩ = some (.int .u32 ((cBits 4 k : Nat) : Int)) := by
  rw [h.tab.cell g_tab k hk, nib_at k hk]
end Go.Proofs.YtabbpgnenmpacaaDoor
