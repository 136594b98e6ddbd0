/-
  What the program's functions of layer 10 want of a world: the units' table, and a variable of the library's, lie as they are laid. It is kept by whatever a walk does.
-/
import Derived.Test.YtodlgbihdehmbaaGreatDoorRetLaidP
set_option linter.unusedSimpArgs false
set_option linter.unusedVariables false
namespace Go.Proofs.YtodlgbihdehmbaaGreatDoor
open Go.RowKit
structure G (w : World) : Prop where
  len : ∃ m, w.cell? ⟨2, 0, none⟩ = some (.int .i64 m)
  un0 : w.cell? ⟨1, 0, none⟩ = some (.int .u8 115) ∧ w.cell? ⟨1, 1, none⟩ = some (.int .i64 1)
  un1 : w.cell? ⟨1, 2, none⟩ = some (.int .u8 109) ∧ w.cell? ⟨1, 3, none⟩ = some (.int .i64 60)
  un2 : w.cell? ⟨1, 4, none⟩ = some (.int .u8 104) ∧ w.cell? ⟨1, 5, none⟩ = some (.int .i64 3600)
  un3 : w.cell? ⟨1, 6, none⟩ = some (.int .u8 100) ∧ w.cell? ⟨1, 7, none⟩ = some (.int .i64 86400)
  un4 : w.cell? ⟨1, 8, none⟩ = some (.int .u8 119) ∧ w.cell? ⟨1, 9, none⟩ = some (.int .i64 604800)
  un5 : w.cell? ⟨1, 10, none⟩ = some (.int .u8 121) ∧ w.cell? ⟨1, 11, none⟩ = some (.int .i64 31536000)
theorem G.keep {w w' : World} (h : G w) (hk : ∀ (b o : Nat) (v : Value), w.cell? ⟨b, o, none⟩ = some v → (b = 2 ∨ b = 1) → w'.cell? ⟨b, o, none⟩ = some v) : G w' := by
  obtain ⟨⟨m, hm⟩, h0, h1, h2, h3, h4, h5⟩ := h
  exact ⟨⟨m, hk _ _ _ hm (.inl rfl)⟩, ⟨hk _ _ _ h0.1 (.inr rfl), hk _ _ _ h0.2 (.inr rfl)⟩, ⟨hk _ _ _ h1.1 (.inr rfl), hk _ _ _ h1.2 (.inr rfl)⟩, ⟨hk _ _ _ h2.1 (.inr rfl), hk _ _ _ h2.2 (.inr rfl)⟩, ⟨hk _ _ _ h3.1 (.inr rfl), hk _ _ _ h3.2 (.inr rfl)⟩, ⟨hk _ _ _ h4.1 (.inr rfl), hk _ _ _ h4.2 (.inr rfl)⟩, ⟨hk _ _ _ h5.1 (.inr rfl), hk _ _ _ h5.2 (.inr rfl)⟩⟩
theorem G.below {w w' : World} (h : G w) (hb : Below w.heap.size w w') : G w' := h.keep fun _ _ _ hv _ => cellb hb hv
theorem G.alloc {w : World} (h : G w) (o : Obj) : G (w.alloc o) := h.below ((Below.refl _ _).alloc (Nat.le_refl _) o)
end Go.Proofs.YtodlgbihdehmbaaGreatDoor
