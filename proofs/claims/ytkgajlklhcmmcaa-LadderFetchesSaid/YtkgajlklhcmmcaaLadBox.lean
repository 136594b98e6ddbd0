/-
  Boxes: blocks of a call's own whose cells may be stored.
-/
import Derived.Test.YtkgajlklhcmmcaaLadRow
set_option linter.unusedSimpArgs false
set_option linter.unusedVariables false
namespace Go.Proofs.Ytkgajlklhcmmcaa
open Go.RowKit
/-- A block of a call's own, its cells as they are. -/
structure Bx (w : World) (b : Nat) (cs : List Value) : Prop where
  lt : b < w.heap.size
  cells : ∀ (j : Nat) (u : Value), cs[j]? = some u → w.cell? ⟨b, j, none⟩ = some u ∧ w.frozen? ⟨b, j, none⟩ = false
theorem bx_new (w : World) (cs : Array Value) (t : TypeId) : Bx (w.alloc (.cells cs t)) w.heap.size cs.toList := by
  have h := heap_alloc_new w (.cells cs t)
  refine ⟨by simp, fun j u hj => ⟨(cell_of_row _ _ j _ _ (0, 0) h).trans (by simpa using hj), frozen_of_row _ _ j _ _ h⟩⟩
theorem Bx.below {w w' : World} {b : Nat} {cs : List Value} (h : Bx w b cs) (hb : Below w.heap.size w w') : Bx w' b cs :=
  ⟨Nat.lt_of_lt_of_le h.lt hb.size, fun j u hj => ⟨cellb hb (h.cells j u hj).1, (hb.frozen (p := ⟨b, j, none⟩) h.lt).trans (h.cells j u hj).2⟩⟩
theorem Bx.set {w : World} {b j : Nat} {cs : List Value} (h : Bx w b cs) (hj : j < cs.length) (u : Value) : Bx (w.setCell ⟨b, j, none⟩ u) b (cs.set j u) := by
  refine ⟨by simpa using h.lt, fun i v hi => ⟨?_, by rw [World.frozen?_setCell]; refine (h.cells i (cs[i]?.getD u) ?_).2; have := (List.getElem?_eq_some_iff.1 hi).1; rw [List.length_set] at this; rw [List.getElem?_eq_getElem this]; rfl⟩⟩
  rw [List.getElem?_set] at hi
  split at hi
  · rename_i e
    subst e
    first | rw [if_pos hj] at hi | skip
    obtain rfl := Option.some.inj hi
    exact World.cell?_setCell_same _ _ _ (h.cells j _ (List.getElem?_eq_getElem hj)).1
  · rename_i e
    rw [World.cell?_setCell_other _ _ _ _ (fun e2 => by injection e2 with _ e2 _; exact e e2)]
    exact (h.cells i v hi).1
theorem Bx.other {w : World} {b b' j : Nat} {cs : List Value} (h : Bx w b cs) (hb : b' ≠ b) (u : Value) : Bx (w.setCell ⟨b', j, none⟩ u) b cs :=
  ⟨by simpa using h.lt, fun i v hi => ⟨by rw [World.cell?_setCell_other _ _ _ _ (fun e => by injection e with e1; exact hb e1)]; exact (h.cells i v hi).1, by rw [World.frozen?_setCell]; exact (h.cells i v hi).2⟩⟩
theorem Bx.other2 {w : World} {b b' i j : Nat} {cs : List Value} (h : Bx w b cs) (hb : b' ≠ b) (u v : Value) : Bx ((w.setCell ⟨b', i, none⟩ u).setCell ⟨b', j, none⟩ v) b cs := (h.other hb u).other hb v
theorem Bx.kept {w w' : World} {b : Nat} {cs : List Value} (h : Bx w b cs) (hk : w'.heap[b]? = w.heap[b]?) : Bx w' b cs := by
  have h1 : ∀ o, w'.cell? ⟨b, o, none⟩ = w.cell? ⟨b, o, none⟩ := fun o => World.cell?_of_block hk
  have h2 : ∀ o, w'.frozen? ⟨b, o, none⟩ = w.frozen? ⟨b, o, none⟩ := fun o => World.frozen?_of_block hk
  refine ⟨?_, fun j u hj => ⟨(h1 j).trans (h.cells j u hj).1, (h2 j).trans (h.cells j u hj).2⟩⟩
  rcases Nat.lt_or_ge b w'.heap.size with g | g
  · exact g
  · have e0 := Array.getElem?_eq_getElem h.lt
    rw [Array.getElem?_eq_none g, e0] at hk
    cases hk
theorem Bx.grown {w w' : World} {b : Nat} {row : Option Nat} {cs : List Value} (h : Bx w b cs) (hg : w.grownBy w' row) (hne : some b ≠ row) : Bx w' b cs := h.kept (hg.block b h.lt hne)
theorem Bx.drew {w : World} {b : Nat} {cs : List Value} (h : Bx w b cs) : Bx w.drew b cs := ⟨h.lt, h.cells⟩
theorem Bx.one {w : World} {b : Nat} {x : Value} (h : Bx w b [x]) : w.cell? ⟨b, 0, none⟩ = some x ∧ w.frozen? ⟨b, 0, none⟩ = false := h.cells 0 _ rfl
theorem Bx.two {w : World} {b : Nat} {x y : Value} (h : Bx w b [x, y]) : w.cell? ⟨b, 0, none⟩ = some x ∧ w.cell? ⟨b, 1, none⟩ = some y ∧ w.frozen? ⟨b, 0, none⟩ = false ∧ w.frozen? ⟨b, 1, none⟩ = false :=
  ⟨(h.cells 0 _ rfl).1, (h.cells 1 _ rfl).1, (h.cells 0 _ rfl).2, (h.cells 1 _ rfl).2⟩
theorem Bx.three {w : World} {b : Nat} {x y z : Value} (h : Bx w b [x, y, z]) : w.cell? ⟨b, 0, none⟩ = some x ∧ w.cell? ⟨b, 1, none⟩ = some y ∧ w.cell? ⟨b, 2, none⟩ = some z ∧ w.frozen? ⟨b, 0, none⟩ = false ∧ w.frozen? ⟨b, 1, none⟩ = false ∧ w.frozen? ⟨b, 2, none⟩ = false :=
  ⟨(h.cells 0 _ rfl).1, (h.cells 1 _ rfl).1, (h.cells 2 _ rfl).1, (h.cells 0 _ rfl).2, (h.cells 1 _ rfl).2, (h.cells 2 _ rfl).2⟩
theorem below_set {B b j : Nat} {a w : World} (h : Below B a w) (hB : B ≤ b) (u : Value) : Below B a (w.setCell ⟨b, j, none⟩ u) := h.setCell (p := ⟨b, j, none⟩) hB u
/-- Two boxes laid one behind the other. -/
theorem bx_new2 (w : World) (cs ds : Array Value) (t u : TypeId) : Bx ((w.alloc (.cells cs t)).alloc (.cells ds u)) w.heap.size cs.toList ∧ Bx ((w.alloc (.cells cs t)).alloc (.cells ds u)) (w.heap.size + 1) ds.toList ∧ Below w.heap.size w ((w.alloc (.cells cs t)).alloc (.cells ds u)) ∧ ((w.alloc (.cells cs t)).alloc (.cells ds u)).heap.size = w.heap.size + 2 := by
  have h1 := bx_new (w.alloc (.cells cs t)) ds u
  rw [show (w.alloc (.cells cs t)).heap.size = w.heap.size + 1 from by simp] at h1
  exact ⟨(bx_new w cs t).below (alloc_below _ _), h1, bnext (alloc_below _ _) (alloc_below _ _), by simp⟩
theorem bx_new1 (w : World) (cs : Array Value) (t : TypeId) : Bx (w.alloc (.cells cs t)) w.heap.size cs.toList ∧ Below w.heap.size w (w.alloc (.cells cs t)) ∧ (w.alloc (.cells cs t)).heap.size = w.heap.size + 1 := ⟨bx_new w cs t, alloc_below _ _, by simp⟩
end Go.Proofs.Ytkgajlklhcmmcaa
