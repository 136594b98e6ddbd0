/-
  Contracts of the document's own functions of layer 11 (isobarref11): has, Get; lists of texts that are the same (isobarref06).
-/
import Derived.Test.YtodlgbihdehmbaaGreatDoorCfgRAZ
set_option linter.unusedSimpArgs false
set_option linter.unusedVariables false
namespace Go.Proofs.YtodlgbihdehmbaaGreatDoor.Cf
def Byt (l : List Nat) : Prop := ∀ c ∈ l, c < 256
theorem byt_bs (s : ByteArray) : Byt (bs s) := bs_small s
theorem toList_eq (s t : ByteArray) : (s.toList == t.toList) = decide (bs s = bs t) := by
  have e : (bs s = bs t) ↔ s = t := ⟨fun h => by rw [← str_bs s, ← str_bs t, h], fun h => by rw [h]⟩
  rw [Bool.eq_iff_iff, beq_iff_eq, decide_eq_true_eq, e, ByteArray.toList_eq, ByteArray.toList_eq]
  exact ⟨fun h => by obtain ⟨⟨l⟩⟩ := s; obtain ⟨⟨m⟩⟩ := t; simp at h; rw [h], fun h => by rw [h]⟩
theorem toList_str {l : List Nat} (h : Byt l) (t : ByteArray) : ((str l).toList == t.toList) = decide (l = bs t) := by rw [toList_eq, bs_str h]
namespace KR
open Go.RowKit
end KR
end Go.Proofs.YtodlgbihdehmbaaGreatDoor.Cf
