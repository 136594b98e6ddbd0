/-
  What the library's functions want of a world: three variables of its own lie as the program's text lays them. It is kept by whatever a walk does.
-/
import Derived.Test.YtodlgbihdehmbaaGreatDoorWideKitP
import Derived.Lib.LaidTab
import Derived.Lib.SmallJoins
import Derived.Lib.ItoaMem
set_option linter.unusedSimpArgs false
set_option linter.unusedVariables false
namespace Go.Proofs.YtodlgbihdehmbaaGreatDoor.De
open Go.RowKit
structure G (w : World) : Prop where
  len : ∃ m, w.cell? ⟨2, 0, none⟩ = some (.int .i64 m)
  err : ∃ te pe, w.cell? ⟨6, 0, none⟩ = some (.iface te pe)
  tab : Lib.TabIs Tryz.prog w "internal/strconv.uint64pow10" .u64 Lib.pow10Tab
theorem g_tab : Tryz.prog.globalNamed "internal/strconv.uint64pow10" = some 7 := by kernel_rfl
theorem G.below {w w' : World} (h : G w) (hb : Below w.heap.size w w') : G w' := by
  refine ⟨?_, ?_, Joins.tab_stays g_tab h.tab hb (Nat.le_refl _)⟩
  · obtain ⟨m, hm⟩ := h.len
    exact ⟨m, (hb.cell (World.block_lt_of_cell? w _ hm)).trans hm⟩
  · obtain ⟨te, pe, hm⟩ := h.err
    exact ⟨te, pe, (hb.cell (World.block_lt_of_cell? w _ hm)).trans hm⟩
theorem G.alloc {w : World} (h : G w) (o : Obj) : G (w.alloc o) := h.below ((Below.refl _ _).alloc (Nat.le_refl _) o)
end Go.Proofs.YtodlgbihdehmbaaGreatDoor.De
