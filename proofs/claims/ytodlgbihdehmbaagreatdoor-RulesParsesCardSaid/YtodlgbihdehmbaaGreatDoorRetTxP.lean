/-
  Rows of texts of a call's own (layer 10).
-/
import Derived.Test.YtodlgbihdehmbaaGreatDoorRetRowP
import Derived.Test.YtodlgbihdehmbaaGreatDoorMemRowP
set_option linter.unusedSimpArgs false
set_option linter.unusedVariables false
namespace Go.Proofs.YtodlgbihdehmbaaGreatDoor
open Go.RowKit
theorem text_info : (Tryz.prog.info? 9).map (fun i => (i.zero, i.size, i.bytes)) = some (some (.string ⟨#[]⟩), 1, 16) := by kernel_rfl
def txC (ls : List (List Nat)) : List Value := ls.map fun t => .string (str t)
def TxNew (B : Nat) (w : World) (v : Value) (ls : List (List Nat)) : Prop := w.ownsRow B 9 1 v ls.length (txC ls)
theorem TxNew.below {B : Nat} {w w' : World} {v : Value} {ls : List (List Nat)} (h : TxNew B w v ls) (hb : Below w.heap.size w w') : TxNew B w' v ls := by
  refine ⟨h.1, ?_⟩
  rcases h.2 with ⟨rfl, h0⟩ | ⟨g, cap, cur, rfl, hg, hh, hr⟩
  · exact Or.inl ⟨rfl, h0⟩
  · exact Or.inr ⟨g, cap, cur, rfl, hg, (hb.block g (Array.getElem?_eq_some_iff.1 hh).1).trans hh, hr⟩
theorem TxNew.form {B : Nat} {w : World} {v : Value} {ls : List (List Nat)} (h : TxNew B w v ls) (hn : ls ≠ []) : ∃ g cap, v = .slice (some ⟨g, 0, none⟩) ls.length cap ∧ B ≤ g ∧ g < w.heap.size ∧ ls.length ≤ cap := by
  rcases h.2 with ⟨rfl, h0⟩ | ⟨g, cap, cur, rfl, hg, hh, hc, _⟩
  · exact absurd (List.eq_nil_of_length_eq_zero h0) hn
  · exact ⟨g, cap, rfl, hg, (Array.getElem?_eq_some_iff.1 hh).1, hc⟩
theorem TxNew.cellAt {B : Nat} {w : World} {g n c : Nat} {ls : List (List Nat)} (h : TxNew B w (.slice (some ⟨g, 0, none⟩) n c) ls) {k : Nat} {t : List Nat} (hk : ls[k]? = some t) : w.cell? ⟨g, k, none⟩ = some (.string (str t)) ∧ w.frozen? ⟨g, k, none⟩ = false := by
  have hlt : k < ls.length := (List.getElem?_eq_some_iff.1 hk).1
  rcases h.2 with ⟨h, _⟩ | ⟨g', cap, cur, hv, hg, hh, hc, _, _, ht⟩
  · cases h
  · injection hv with e1 e2 e3
    injection e1 with e1
    injection e1 with e1 _ _
    subst e1
    refine ⟨(cell_of_row w g k cur _ (0, 0) hh).trans ?_, frozen_of_row w g k cur _ hh⟩
    have h5 : (cur.toList.take (ls.length * 1))[k]? = some (.string (str t)) := by rw [ht]; unfold txC; rw [List.getElem?_map, hk]; rfl
    rw [List.getElem?_take, if_pos (by omega)] at h5
    simpa using h5
theorem TxNew.put {B : Nat} {w : World} {g n c : Nat} {ls : List (List Nat)} (h : TxNew B w (.slice (some ⟨g, 0, none⟩) n c) ls) {k : Nat} (hk : k < ls.length) (t : List Nat) : TxNew B (w.setCell ⟨g, k, none⟩ (.string (str t))) (.slice (some ⟨g, 0, none⟩) n c) (ls.set k t) := by
  refine ⟨by unfold txC; simp, ?_⟩
  rcases h.2 with ⟨h, _⟩ | ⟨g', cap, cur, hv, hg, hh, hc, hm, hs, ht⟩
  · cases h
  · injection hv with e1 e2 e3
    injection e1 with e1
    injection e1 with e1 _ _
    subst e1 e2 e3
    refine Or.inr ⟨g, c, cur.setIfInBounds k (.string (str t)), by rw [List.length_set], hg, ?_, by rw [List.length_set]; exact hc, hm, by rw [Array.size_setIfInBounds]; exact hs, ?_⟩
    · simp [World.setCell, Array.getElem?_modify, hh]
    · rw [List.length_set, Array.toList_setIfInBounds, List.take_set, ht]
      unfold txC
      rw [List.map_set]
theorem TxNew.push {B : Nat} {w : World} {v : Value} {ls : List (List Nat)} {t : List Nat} (h : w.ownsRow B 9 1 v (ls.length + 1) (txC ls ++ [.string (str t)])) : TxNew B w v (ls ++ [t]) := by
  unfold TxNew txC
  rw [List.length_append, List.length_singleton, List.map_append]
  exact h
theorem TxNew.lit {w : World} (t : List Nat) : TxNew w.heap.size (w.alloc (.cells #[.string (str t)] 9)) (.slice (some ⟨w.heap.size, 0, none⟩) 1 1) [t] := by
  refine ⟨by unfold txC; simp, Or.inr ⟨w.heap.size, 1, #[.string (str t)], rfl, Nat.le_refl _, ?_, Nat.le_refl _, by decide, rfl, rfl⟩⟩
  show (w.heap.push _)[w.heap.size]? = _
  exact Array.getElem?_push_size
end Go.Proofs.YtodlgbihdehmbaaGreatDoor
