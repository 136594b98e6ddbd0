/-
  Contracts of the program's functions of layer 12: Stores; may rules be?
-/
import Derived.Test.YtodlgbihdehmbaaGreatDoorRulPEP
import Derived.Test.YtodlgbihdehmbaaGreatDoorRetPEP
set_option linter.unusedSimpArgs false
set_option linter.unusedVariables false
namespace Go.Proofs.YtodlgbihdehmbaaGreatDoor.LP
open Go.RowKit Cf Cf.KR Cf.KP
theorem tx_new (w : World) (ls : List (List Nat)) (h0 : 0 < ls.length) (t : TypeId) : TxOut (w.alloc (.cells (ls.map fun l => Value.string (str l)).toArray t)) (.slice (some ⟨w.heap.size, 0, none⟩) ls.length ls.length) ls := by
  refine ⟨_, _, rfl, Nat.le_refl _, fun _ => ⟨_, rfl, fun k l hk => ?_⟩⟩
  refine (cell_of_row _ _ k _ _ (0, 0) (heap_alloc_new w _)).trans ?_
  simp [hk]
set_option maxRecDepth 100000 in
set_option maxHeartbeats 1000000 in
theorem stores_p (s : ByteArray) (w : World) (g : G w) :
    Calls Tryz.prog 8 #[.string s] w fun e w' => ∃ v, e = .returned (.tuple #[v, .int .i64 (storesV (bs s)).2]) ∧ StOut w' v (storesV (bs s)).1 ∧ Below w.heap.size w w' := by
  have RD := readS_p s (w.alloc (.cells #[.string (str patB), .string (str retB)] 9)) (.slice (some ⟨w.heap.size, 0, none⟩) 2 2) (g.alloc _) (tx_new w [patB, retB] (by decide) 9)
  have e1 : str patB = ⟨#[112, 97, 116, 116, 101, 114, 110]⟩ := rfl
  have e2 : str retB = ⟨#[114, 101, 116, 101, 110, 116, 105, 111, 110, 115]⟩ := rfl
  rw [e1, e2] at RD
  obtain ⟨D, hD⟩ : ∃ D, storesV (bs s) = D := ⟨_, rfl⟩
  rw [hD] at RD ⊢
  have R2 := Lib.hid RD
  clear RD e1 e2
  go_enter Tryz.func8, Tryz.ntmps8
  go_wp2_with (go_at_call 25; refine R2.out.mono ?_; rintro _ w2 ⟨v, rfl, hv, hb2⟩)
  go_ret2
  exact ⟨_, rfl, hv, bnext (alloc_below _ _) hb2⟩
end Go.Proofs.YtodlgbihdehmbaaGreatDoor.LP
