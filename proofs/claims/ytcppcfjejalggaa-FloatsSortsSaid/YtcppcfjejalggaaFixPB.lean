/-
  Contracts of the program's own functions of layer 2 (fixed), the second part: sums, differences, which is greater.
-/
import Derived.Test.YtcppcfjejalggaaFixP
set_option linter.unusedSimpArgs false
set_option linter.unusedVariables false
namespace Go.Proofs.Ytcppcfjejalggaa.FP
open Go.RowKit

theorem i64_wrap (n : Int) : IntKind.i64.wrap n = (n + 9223372036854775808) % 18446744073709551616 - 9223372036854775808 := by
  simp [IntKind.wrap, IntKind.bits, IntKind.signed]
  split <;> omega
theorem i64_in {n : Int} (h0 : -9223372036854775808 ≤ n) (h1 : n ≤ 9223372036854775807) : IntKind.i64.wrap n = n := by rw [i64_wrap]; omega
theorem i64_up {n : Int} (h0 : 9223372036854775807 < n) (h1 : n ≤ 27670116110564327423) : IntKind.i64.wrap n = n - 18446744073709551616 := by rw [i64_wrap]; omega
theorem i64_down {n : Int} (h0 : n < -9223372036854775808) (h1 : -27670116110564327424 ≤ n) : IntKind.i64.wrap n = n + 18446744073709551616 := by rw [i64_wrap]; omega
/-- The cells of two numbers lie on behind a call. -/
theorem held2 {x y : World} {a0 a1 : Nat} {p0 q0 p1 q1 : Value} (h : x.cell? ⟨a0, 0, none⟩ = some p0 ∧ x.cell? ⟨a0, 1, none⟩ = some q0 ∧ x.cell? ⟨a1, 0, none⟩ = some p1 ∧ x.cell? ⟨a1, 1, none⟩ = some q1 ∧ a0 < x.heap.size ∧ a1 < x.heap.size)
    (hb : Below x.heap.size x y) : y.cell? ⟨a0, 0, none⟩ = some p0 ∧ y.cell? ⟨a0, 1, none⟩ = some q0 ∧ y.cell? ⟨a1, 0, none⟩ = some p1 ∧ y.cell? ⟨a1, 1, none⟩ = some q1 ∧ a0 < y.heap.size ∧ a1 < y.heap.size := by
  obtain ⟨c0, d0, c1, d1, l0, l1⟩ := h
  have c := fun (b o : Nat) (hlt : b < x.heap.size) => hb.cell (p := ⟨b, o, none⟩) hlt
  exact ⟨(c _ _ l0).trans c0, (c _ _ l0).trans d0, (c _ _ l1).trans c1, (c _ _ l1).trans d1, Nat.lt_of_lt_of_le l0 hb.size, Nat.lt_of_lt_of_le l1 hb.size⟩
theorem lim_rd {t : Int} (h : -9223372036854775808 ≤ t ∧ t ≤ 9223372036854775807) : rd false t = lim t := by
  by_cases g : t = -9223372036854775808
  · rw [rd_none (fun hh => hh.2 g), lim_out (by omega)]
  · rw [rd_some rfl g, lim_in (by omega)]
/-- The order of two whole numbers. -/
def ordI (x y : Int) : Int := if x < y then -1 else if y < x then 1 else 0
theorem ord_cmp {x y : Option Int} (hx : inR x) (hy : inR y) : ordI (rkO x) (rkO y) = cmpO x y := by
  cases x with
  | none => cases y with
    | none => rfl
    | some b => have := hy b rfl; exact if_pos (show (-9223372036854775808 : Int) < b from by omega)
  | some a => cases y with
    | none =>
      have := hx a rfl
      exact (if_neg (show ¬ a < (-9223372036854775808 : Int) from by omega)).trans (if_pos (show (-9223372036854775808 : Int) < a from by omega))
    | some b => rfl
theorem more_cmp (x y : Option Int) : (cmpO x y < 0 → moreO x y = y) ∧ (¬ cmpO x y < 0 → moreO x y = x) := by
  cases x with
  | none => cases y with
    | none => exact ⟨fun _ => rfl, fun _ => rfl⟩
    | some b => exact ⟨fun _ => rfl, fun h => absurd (show (-1 : Int) < 0 from by decide) h⟩
  | some a => cases y with
    | none => exact ⟨fun h => absurd h (show ¬ (1 : Int) < 0 from by decide), fun _ => rfl⟩
    | some b =>
      show ((if a < b then (-1 : Int) else if b < a then 1 else 0) < 0 → (if b ≤ a then some a else some b) = some b) ∧ (¬ (if a < b then (-1 : Int) else if b < a then 1 else 0) < 0 → (if b ≤ a then some a else some b) = some a)
      by_cases h : a < b
      · rw [if_pos h, if_neg (by omega : ¬ b ≤ a)]
        exact ⟨fun _ => rfl, fun hh => absurd (by decide) hh⟩
      · rw [if_neg h, if_pos (by omega : b ≤ a)]
        refine ⟨fun hh => ?_, fun _ => rfl⟩
        split at hh <;> omega
end Go.Proofs.Ytcppcfjejalggaa.FP
