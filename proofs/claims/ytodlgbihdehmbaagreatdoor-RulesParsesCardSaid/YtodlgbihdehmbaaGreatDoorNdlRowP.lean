/-
  Needles in memory (layer 9): an item as a value.
-/
import Derived.Test.YtodlgbihdehmbaaGreatDoorNdlMathP
import Derived.Test.YtodlgbihdehmbaaGreatDoorProg
import Derived.Below
import Derived.OwnWalk
import Derived.Laws.BitsAllLaws
set_option linter.unusedSimpArgs false
set_option linter.unusedVariables false
namespace Go.Proofs.YtodlgbihdehmbaaGreatDoor.Nd
open Go.RowKit
/-- An item's cells. -/
def itC (i : NI) : List Value := [.int .u64 (i.s0 : Nat), .int .u64 (i.s1 : Nat), .int .u64 (i.s2 : Nat), .int .u64 (i.s3 : Nat), .bool i.star]
def NI.ok (i : NI) : Prop := i.s0 < 18446744073709551616 ∧ i.s1 < 18446744073709551616 ∧ i.s2 < 18446744073709551616 ∧ i.s3 < 18446744073709551616
theorem and_bit (a k : Nat) (ha : a < 18446744073709551616) : bits .and .u64 ((a : Int) / 2 ^ k) 1 = ((a / 2 ^ k % 2 : Nat) : Int) := by
  have hq : a / 2 ^ k ≤ a := Nat.div_le_self _ _
  have e : (a : Int) / 2 ^ k = ((a / 2 ^ k : Nat) : Int) := by simp
  rw [e]
  generalize a / 2 ^ k = q at *
  have h1 : bits .and .u64 (q : Int) ((1 : Nat) : Int) = ((q &&& 1 : Nat) : Int) := u64_and_nat q 1 (by omega) (by decide)
  rw [nat_mask1] at h1
  exact h1
theorem fit_bit (a k : Nat) (ha : a < 18446744073709551616) : (bits .and .u64 ((a : Int) / 2 ^ k) 1 == 1) = a.testBit k := by
  rw [and_bit a k ha, Nat.testBit_eq_decide_div_mod_eq]
  by_cases h : a / 2 ^ k % 2 = 1
  · rw [h, decide_eq_true rfl]; rfl
  · rw [decide_eq_false h]
    exact beq_false_of_ne (fun e => h (by omega))
theorem cell_keep {w w' : World} (hb : Below w.heap.size w w') {b o : Nat} {u : Value} (h : w.cell? ⟨b, o, none⟩ = some u) : w'.cell? ⟨b, o, none⟩ = some u := (hb.cell (World.block_lt_of_cell? w _ h)).trans h
/-- A row of items. -/
def ItAt (w : World) (b off : Nat) (l : List NI) : Prop := ∀ (k : Nat) (i : NI), l[k]? = some i → ∀ (j : Nat) (x : Value), (itC i)[j]? = some x → w.cell? ⟨b, off + k * 5 + j, none⟩ = some x
def ItOut (w : World) (v : Value) (l : List NI) : Prop := ∃ A cap, v = .slice A l.length cap ∧ l.length ≤ cap ∧ (l ≠ [] → ∃ b off, A = some ⟨b, off, none⟩ ∧ ItAt w b off l)
theorem ItAt.below {w w' : World} {b off : Nat} {l : List NI} (h : ItAt w b off l) (hb : Below w.heap.size w w') : ItAt w' b off l := fun k i hk j x hx => cell_keep hb (h k i hk j x hx)
theorem ItOut.below {w w' : World} {v : Value} {l : List NI} (h : ItOut w v l) (hb : Below w.heap.size w w') : ItOut w' v l := by
  obtain ⟨A, cap, hv, hc, hx⟩ := h
  refine ⟨A, cap, hv, hc, fun hn => ?_⟩
  obtain ⟨b, off, hA, hf⟩ := hx hn
  exact ⟨b, off, hA, hf.below hb⟩
theorem ItOut.nil (w : World) : ItOut w (.slice none 0 0) [] := ⟨none, 0, rfl, Nat.le_refl _, fun h => absurd rfl h⟩
theorem five {w : World} {b o : Nat} {v0 v1 v2 v3 v4 : Value} (h : ∀ (j : Nat) (x : Value), [v0, v1, v2, v3, v4][j]? = some x → w.cell? ⟨b, o + j, none⟩ = some x) :
    w.cell? ⟨b, o, none⟩ = some v0 ∧ w.cell? ⟨b, o + 1, none⟩ = some v1 ∧ w.cell? ⟨b, o + 2, none⟩ = some v2 ∧ w.cell? ⟨b, o + 3, none⟩ = some v3 ∧ w.cell? ⟨b, o + 4, none⟩ = some v4 :=
  ⟨h 0 _ rfl, h 1 _ rfl, h 2 _ rfl, h 3 _ rfl, h 4 _ rfl⟩
/-- A compiled pattern as a value. -/
def NnOut (w : World) (v : Value) (n : NN) : Prop := ∃ u, v = .agg #[.bool n.start, .bool n.fin, u] ∧ ItOut w u n.items
def NN.ok (n : NN) : Prop := ∀ i ∈ n.items, i.ok
end Go.Proofs.YtodlgbihdehmbaaGreatDoor.Nd
