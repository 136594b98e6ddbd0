/-
  Contracts of the document's own functions of layer 11 (isobarref11): the lines of a text.
-/
import Derived.Test.YtodlgbihdehmbaaGreatDoorCfgRAZ
set_option linter.unusedSimpArgs false
set_option linter.unusedVariables false
namespace Go.Proofs.YtodlgbihdehmbaaGreatDoor.Cf.KR
open Go.RowKit
theorem keepV_snoc (ps : List (List Nat)) (p : List Nat) : keepV (ps ++ [p]) = if kept (lnV p) = true then keepV ps ++ [lnV p] else keepV ps := by
  rw [keepV_app]
  unfold keepV
  rw [List.map_cons, List.map_nil, List.filter_cons]
  split
  · rfl
  · simp
theorem spl_last {c : Nat} {l : List Nat} {f : Nat} (h : ∀ j, f ≤ j → j < l.length → byteAt l j ≠ c) : spl c (l.drop f) = [l.drop f] := by
  refine spl_no fun hm => ?_
  obtain ⟨j, hj⟩ := List.getElem?_of_mem hm
  rw [List.getElem?_drop] at hj
  have hl := (List.getElem?_eq_some_iff.1 hj).1
  refine h (f + j) (by omega) hl ?_
  unfold byteAt
  rw [List.getD_eq_getElem?_getD, hj]; rfl
theorem spl_seg {c : Nat} {l : List Nat} {f k : Nat} (hf : f ≤ k) (hk : k < l.length) (hc : byteAt l k = c) (h : ∀ j, f ≤ j → j < k → byteAt l j ≠ c) : spl c (l.drop f) = (l.drop f).take (k - f) :: spl c (l.drop (k + 1)) := by
  have e : l.drop f = (l.drop f).take (k - f) ++ c :: l.drop (k + 1) := by
    conv => lhs; rw [← List.take_append_drop (k - f) (l.drop f)]
    rw [List.drop_drop, show f + (k - f) = k from by omega, List.drop_eq_getElem_cons hk]
    have : l[k] = c := by
      unfold byteAt at hc
      rw [List.getD_eq_getElem?_getD, List.getElem?_eq_getElem hk] at hc
      exact hc
    rw [this]
  conv => lhs; rw [e]
  refine spl_at _ fun hm => ?_
  obtain ⟨j, hj⟩ := List.getElem?_of_mem hm
  rw [List.getElem?_take] at hj
  split at hj
  · rename_i hjk
    rw [List.getElem?_drop] at hj
    refine h (f + j) (by omega) (by omega) ?_
    unfold byteAt
    rw [List.getD_eq_getElem?_getD, hj]; rfl
  · cases hj
theorem toL_no {s : ByteArray} (h : 0 < s.size) : (s.toList == (ByteArray.mk #[]).toList) = false := by
  rw [beq_eq_false_iff_ne]
  intro e
  rw [ByteArray.toList_eq, ByteArray.toList_eq] at e
  have := congrArg List.length e
  obtain ⟨⟨l⟩⟩ := s
  simp [ByteArray.size] at this h
  first | omega | (rw [this] at h; simp at h)
end Go.Proofs.YtodlgbihdehmbaaGreatDoor.Cf.KR
