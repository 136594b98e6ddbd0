/-
  Worlds that have grown out of another, for quiet regions with callees that make memory (layer 10).
-/
import Derived.Test.YtodlgbihdehmbaaGreatDoorRetRowP
import Derived.Deep.QuietTactic
set_option linter.unusedSimpArgs false
set_option linter.unusedVariables false
namespace Go.Proofs.YtodlgbihdehmbaaGreatDoor
open Go.RowKit
/-- A world that has grown out of another. -/
structure Laid (w : World) where
  W : World
  h : Below w.heap.size w W
instance (w : World) : Inhabited (Laid w) := ⟨⟨w, Below.refl _ _⟩⟩
theorem wp_region_laid {P : Program} {id : Nat} {Q : Exit → Act → World → Prop} {a : Act} {w : World} {l : List Oper} (hm : P.follows .mixedOrders = true) (hB : Region.lexB .any l.toArray = true)
    (h : wpQuiet P l.toArray (fun w' => ∃ p : Laid w, w' = p.W) (fun a' => ∀ w', (∃ p : Laid w, w' = p.W) → Q .normal a' w') l a) : (Code.region id l.toArray true).wp P Q a w :=
  wp_region_quiet (C := fun w' => ∃ p : Laid w, w' = p.W) hm hB ⟨⟨w.drew, (Below.refl _ _).drew⟩, rfl⟩ (by simpa using h)
theorem Calls.laid {P : Program} {f : FuncId} {args : Array Value} {w : World} {p : Laid w} {v : Value} (h : Calls P f args p.W fun e w' => e = .returned v ∧ Below p.W.heap.size p.W w') : Calls P f args p.W fun e w'' => e = .returned v ∧ ∃ p : Laid w, w'' = p.W :=
  h.mono fun _ _ ⟨he, hb⟩ => ⟨he, ⟨_, bnext p.h hb⟩, rfl⟩
end Go.Proofs.YtodlgbihdehmbaaGreatDoor
