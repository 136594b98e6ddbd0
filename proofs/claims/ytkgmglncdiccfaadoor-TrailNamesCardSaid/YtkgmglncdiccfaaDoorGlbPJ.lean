/-
  Contracts of the program's functions of layer 15: texts.
-/
import Derived.Test.YtkgmglncdiccfaaDoorGlbPI
set_option linter.unusedSimpArgs false
set_option linter.unusedVariables false
namespace Go.Proofs.YtkgmglncdiccfaaDoor.GP
open Go.RowKit
theorem below_next {B : Nat} {a b c : World} (h : Below B a b) (k : Below b.heap.size b c) (hB : B ≤ b.heap.size) : Below B a c := h.trans (k.mono hB)
theorem pos_mul {a b : Nat} (h : 1 ≤ b) : a ≤ a * b := by
  have := Nat.mul_le_mul (Nat.le_refl a) h
  omega
theorem pcTx_le {x : GA ⊕ Tr} {r : Tr} (h : Good false (consT x r)) {t : List Nat} (ht : t ∈ pcTx x) : t.length + (gStr r).length ≤ (gStr (consT x r)).length := by
  cases x with
  | inl a =>
    obtain rfl := List.mem_singleton.1 ht
    show _ ≤ (a.txt ++ gStr r).length
    rw [List.length_append]
    exact Nat.le_refl _
  | inr ws =>
    obtain ⟨e, he, rfl⟩ := ((gTx_mem ws).2 h.1 t).1 ht
    have := gEx_len ws (.inr h.1) e he
    have h2 := gStr_br ws r
    simp only [consT]
    omega
theorem pcNm_pos {x : GA ⊕ Tr} {r : Tr} (h : Good false (consT x r)) : 1 ≤ pcNm x := by
  cases x with
  | inl a => exact Nat.le_refl _
  | inr ws => exact (gNm_pos ws).2 h.1 h.2.1
end Go.Proofs.YtkgmglncdiccfaaDoor.GP
