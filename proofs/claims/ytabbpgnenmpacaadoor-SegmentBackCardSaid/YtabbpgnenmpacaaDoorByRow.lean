/-
  Rows of bytes in memory, read as lists of numbers.
-/
import Derived.Test.YtabbpgnenmpacaaDoorMemRow
import Derived.Laws.OwnMore
import Derived.WalkKit
import Derived.Lib.Hide
import Derived.Laws.Rows
set_option linter.unusedSimpArgs false
set_option linter.unusedVariables false
namespace Go.Proofs.YtabbpgnenmpacaaDoor
open Go.RowKit
def ByAt (w : World) (b off : Nat) (l : List Nat) : Prop := ∀ (i n : Nat), l[i]? = some n → w.cell? ⟨b, off + i, none⟩ = some (.int .u8 (n : Int))
theorem ByAt.below {w w' : World} {b off : Nat} {l : List Nat} (h : ByAt w b off l) (hb : Below w.heap.size w w') : ByAt w' b off l := fun i n hi => (hb.cell (World.block_lt_of_cell? w _ (h i n hi))).trans (h i n hi)
/-- A slice value that is such a row. -/
def ByOut (w : World) (v : Value) (l : List Nat) : Prop := ∃ A cap, v = .slice A l.length cap ∧ l.length ≤ cap ∧ (l ≠ [] → ∃ b off, A = some ⟨b, off, none⟩ ∧ ByAt w b off l)
theorem ByOut.below {w w' : World} {v : Value} {l : List Nat} (h : ByOut w v l) (hb : Below w.heap.size w w') : ByOut w' v l := by
  obtain ⟨A, cap, hv, hc, hx⟩ := h
  refine ⟨A, cap, hv, hc, fun hn => ?_⟩
  obtain ⟨b, off, hA, hf⟩ := hx hn
  exact ⟨b, off, hA, hf.below hb⟩
def bys (l : List Nat) : List Value := l.map fun (n : Nat) => .int .u8 (n : Int)
theorem bys_one (l : List Nat) : ∀ u ∈ bys l, u.oneCell' = true := by
  intro u hu
  obtain ⟨x, _, rfl⟩ := List.mem_map.1 hu
  rfl
theorem bys_length (l : List Nat) : (bys l).length = l.length := by simp [bys]
theorem bys_app (a b : List Nat) : bys (a ++ b) = bys a ++ bys b := by simp [bys]
theorem reads_by {w : World} {A : Option Addr} {l : List Nat} (h : l ≠ [] → ∃ b off, A = some ⟨b, off, none⟩ ∧ ByAt w b off l) : Reads w w.heap.size 1 A l.length (bys l) := by
  refine ⟨by simp [bys], fun h0 => ?_⟩
  obtain ⟨b, off, rfl, hf⟩ := h (List.length_pos_iff.1 h0)
  have hl0 := List.getElem?_eq_getElem h0
  refine ⟨_, rfl, World.block_lt_of_cell? w _ (hf 0 _ hl0), fun j u hu => ?_⟩
  simp only [bys, List.getElem?_map, Option.map_eq_some_iff] at hu
  obtain ⟨n, hn, rfl⟩ := hu
  have e : (⟨b, off, none⟩ : Addr).add j = ⟨b, off + j, none⟩ := by unfold Addr.add; split <;> simp_all
  rw [e]
  exact hf j n hn
/-- A slice value that is a row of the call's own, from block B on: nothing else lies in its block. -/
def ByNew (B : Nat) (w : World) (v : Value) (l : List Nat) : Prop := w.ownsRow B 5 1 v l.length (bys l)
theorem ByNew.form {B : Nat} {w : World} {v : Value} {l : List Nat} (h : ByNew B w v l) : ∃ A cap, v = .slice A l.length cap ∧ l.length ≤ cap ∧ (l ≠ [] → ∃ g, A = some ⟨g, 0, none⟩ ∧ B ≤ g ∧ g < w.heap.size ∧ ByAt w g 0 l ∧ ∀ i, w.frozen? ⟨g, i, none⟩ = false) := by
  rcases h.2 with ⟨rfl, h0⟩ | ⟨g, cap, cur, rfl, hb, hh, hle, _, _, ht⟩
  · exact ⟨none, 0, by rw [h0], by omega, fun hn => absurd (List.eq_nil_of_length_eq_zero h0) hn⟩
  · refine ⟨_, cap, rfl, hle, fun _ => ⟨g, rfl, hb, ?_, fun i n hi => ?_, fun i => frozen_of_row w g i cur _ hh⟩⟩
    · rcases Nat.lt_or_ge g w.heap.size with h | h
      · exact h
      · rw [Array.getElem?_eq_none h] at hh; cases hh
    · rw [Nat.zero_add]
      have hlt : i < l.length := by
        rcases Nat.lt_or_ge i l.length with h | h
        · exact h
        · rw [List.getElem?_eq_none h] at hi; cases hi
      refine (cell_of_row w g i cur _ (0, 0) hh).trans ?_
      have h5 : (cur.toList.take (l.length * 1))[i]? = some (.int .u8 (n : Int)) := by rw [ht]; simp [bys, hi]
      rw [List.getElem?_take, if_pos (by omega)] at h5
      simpa using h5
theorem ByNew.out {B : Nat} {w : World} {v : Value} {l : List Nat} (h : ByNew B w v l) : ByOut w v l := by
  obtain ⟨A, cap, hv, hc, hx⟩ := h.form
  refine ⟨A, cap, hv, hc, fun hn => ?_⟩
  obtain ⟨g, hA, _, _, hf, _⟩ := hx hn
  exact ⟨g, 0, hA, hf⟩
theorem ByNew.reads {B : Nat} {w : World} {A : Option Addr} {n c : Nat} {l : List Nat} (h : ByNew B w (.slice A n c) l) (hn : l.length = n) : Reads w w.heap.size 1 A n (bys l) := by
  subst hn
  exact Reads.of_own h
end Go.Proofs.YtabbpgnenmpacaaDoor
