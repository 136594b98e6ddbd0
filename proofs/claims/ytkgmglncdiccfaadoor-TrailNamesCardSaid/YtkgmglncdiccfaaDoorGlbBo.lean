/-
  Rows of truths (layer 15): which places of a name count.
-/
import Derived.Test.YtkgmglncdiccfaaDoorGlbTx
set_option linter.unusedSimpArgs false
set_option linter.unusedVariables false
namespace Go.Proofs.YtkgmglncdiccfaaDoor
open Go.RowKit
theorem bool_info : (Tryd.prog.info? 4).map (fun i => (i.zero, i.size, i.bytes)) = some (some (.bool false), 1, 1) := by kernel_rfl
/-- A row of truths in a block. -/
structure BRow (w : World) (g n : Nat) (f : Nat → Bool) : Prop where
  lt : g < w.heap.size
  c : ∀ j, j < n → w.cell? ⟨g, j, none⟩ = some (.bool (f j))
  fz : ∀ j, j < n → w.frozen? ⟨g, j, none⟩ = false
theorem BRow.low {B g n : Nat} {w w' : World} {f : Nat → Bool} (h : BRow w g n f) (hb : Below B w w') (hg : g < B) : BRow w' g n f :=
  ⟨Nat.lt_of_lt_of_le h.lt hb.size, fun j hj => (hb.cell (p := ⟨g, j, none⟩) hg).trans (h.c j hj), fun j hj => (hb.frozen (p := ⟨g, j, none⟩) hg).trans (h.fz j hj)⟩
theorem BRow.below {g n : Nat} {w w' : World} {f : Nat → Bool} (h : BRow w g n f) (hb : Below w.heap.size w w') : BRow w' g n f := h.low hb h.lt
theorem BRow.made {w w' : World} {n : Nat} (h : w'.ownsRow 0 4 1 (.slice (some ⟨w.heap.size, 0, none⟩) n n) n (madeCells (Value.bool false).cells (n * 1)).toList) (hn : 0 < n) : BRow w' w.heap.size n (fun _ => false) := by
  refine ⟨(World.ownsRow.lt h _ rfl).2, fun j hj => ?_, fun j hj => h.frozenAt j⟩
  rw [h.cellAt j (by omega)]
  rw [Nat.mul_one]
  have e : (Value.bool false).cells = #[.bool false] := rfl
  rw [e]
  unfold madeCells
  simp [hj, Nat.mod_one]
theorem BRow.set {w : World} {g n k : Nat} {f h : Nat → Bool} {x : Bool} (hr : BRow w g n f) (hk : k < n) (hf : ∀ j, j < n → h j = if j = k then x else f j) : BRow (w.setCell ⟨g, k, none⟩ (.bool x)) g n h := by
  refine ⟨by simp; exact hr.lt, fun j hj => ?_, fun j hj => by rw [World.frozen?_setCell]; exact hr.fz j hj⟩
  rw [hf j hj]
  by_cases e : j = k
  · subst e
    rw [if_pos rfl]
    exact World.cell?_setCell_same w _ _ (hr.c j hj)
  · rw [if_neg e]
    exact (World.cell?_setCell_other w _ _ _ (by intro e2; simp only [Addr.mk.injEq] at e2; omega)).trans (hr.c j hj)
theorem BRow.other {w : World} {g n b o : Nat} {f : Nat → Bool} {u : Value} (hr : BRow w g n f) (hne : ¬ b = g) : BRow (w.setCell ⟨b, o, none⟩ u) g n f := by
  refine ⟨by simp; exact hr.lt, fun j hj => ?_, fun j hj => by rw [World.frozen?_setCell]; exact hr.fz j hj⟩
  exact (World.cell?_setCell_other w _ _ _ (by intro e2; simp only [Addr.mk.injEq] at e2; exact hne e2.1)).trans (hr.c j hj)
theorem BRow.drew {w : World} {g n : Nat} {f : Nat → Bool} (h : BRow w g n f) : BRow w.drew g n f := ⟨h.lt, h.c, h.fz⟩
theorem BRow.congr {w : World} {g n : Nat} {f h : Nat → Bool} (hr : BRow w g n f) (he : ∀ j, j < n → f j = h j) : BRow w g n h := ⟨hr.lt, fun j hj => by rw [← he j hj]; exact hr.c j hj, hr.fz⟩
theorem below_none {w w' : World} (h : w.grownBy w' none) : Below w.heap.size w w' := ⟨h.os, h.tape, h.output, h.size, fun k hk => h.block k hk (by simp)⟩
theorem BRow.step {w : World} {g n k : Nat} {f : Nat → Bool} {x : Bool} (hr : BRow w g n (fun j => if j < k then f j else false)) (hk : k < n) (hx : f k = x) : BRow (w.setCell ⟨g, k, none⟩ (.bool x)) g n (fun j => if j < k + 1 then f j else false) := hr.set hk fun j hj => by
  show (if j < k + 1 then f j else false) = if j = k then x else if j < k then f j else false
  by_cases e : j = k
  · subst e
    rw [if_pos rfl, if_pos (Nat.lt_succ_self _), hx]
  · rw [if_neg e]
    by_cases e2 : j < k
    · rw [if_pos e2, if_pos (by omega)]
    · rw [if_neg e2, if_neg (by omega)]
theorem gAd_zero {n : List Nat} {a : GA} (h : a.kind ≠ 2) (f : Nat → Bool) : gAd n a f 0 = false := by
  cases a with
  | star => exact absurd rfl h
  | one c => rfl
  | each => rfl
  | cls t rs => rfl
theorem gAd_succ {n : List Nat} {a : GA} (h : a.kind ≠ 2) (f : Nat → Bool) (k : Nat) : gAd n a f (k + 1) = (f k && a.fit (n.getD k 0)) := by
  cases a with
  | star => exact absurd rfl h
  | one c => rfl
  | each => rfl
  | cls t rs => rfl
/-- Up to which places count ones so far. -/
def reachd (f : Nat → Bool) (k : Nat) : Bool := (List.range k).any f
theorem reachd_zero (f : Nat → Bool) : reachd f 0 = false := rfl
theorem reachd_succ (f : Nat → Bool) (k : Nat) : reachd f (k + 1) = (reachd f k || f k) := by
  unfold reachd
  rw [List.range_succ, List.any_append]
  simp
theorem gAd_star (n : List Nat) (f : Nat → Bool) (k : Nat) : gAd n .star f k = reachd f (k + 1) := by cases k <;> rfl
/-- What one piece leads to. -/
def pcLd (n : List Nat) (f : Nat → Bool) : GA ⊕ Tr → Nat → Bool
  | .inl a => gAd n a f
  | .inr ws => gLd n ws f
theorem gLd_cons (n : List Nat) (x : GA ⊕ Tr) (r : Tr) (f : Nat → Bool) : gLd n (consT x r) f = gLd n r (pcLd n f x) := by cases x <;> rfl
end Go.Proofs.YtkgmglncdiccfaaDoor
