/-
  Plain facts on needles (layer 9): compiled patterns, where they are found. Nothing of the program is imported.
-/
import Derived.Lib.Hide
namespace Go.Proofs
end Go.Proofs
namespace Go.Proofs.YtodlgbihdehmbaaGreatDoor
end Go.Proofs.YtodlgbihdehmbaaGreatDoor
namespace Go.Proofs.YtodlgbihdehmbaaGreatDoor.Cf
end Go.Proofs.YtodlgbihdehmbaaGreatDoor.Cf
namespace Go.Proofs.YtodlgbihdehmbaaGreatDoor.Cf.KP
end Go.Proofs.YtodlgbihdehmbaaGreatDoor.Cf.KP
namespace Go.Proofs.YtodlgbihdehmbaaGreatDoor.Cf.KR
end Go.Proofs.YtodlgbihdehmbaaGreatDoor.Cf.KR
namespace Go.Proofs.YtodlgbihdehmbaaGreatDoor.De
end Go.Proofs.YtodlgbihdehmbaaGreatDoor.De
namespace Go.Proofs.YtodlgbihdehmbaaGreatDoor.De.DP
end Go.Proofs.YtodlgbihdehmbaaGreatDoor.De.DP
namespace Go.Proofs.YtodlgbihdehmbaaGreatDoor.De.DR
end Go.Proofs.YtodlgbihdehmbaaGreatDoor.De.DR
namespace Go.Proofs.YtodlgbihdehmbaaGreatDoor.De.FP
end Go.Proofs.YtodlgbihdehmbaaGreatDoor.De.FP
namespace Go.Proofs.YtodlgbihdehmbaaGreatDoor.LP
end Go.Proofs.YtodlgbihdehmbaaGreatDoor.LP
namespace Go.Proofs.YtodlgbihdehmbaaGreatDoor.LR
end Go.Proofs.YtodlgbihdehmbaaGreatDoor.LR
namespace Go.Proofs.YtodlgbihdehmbaaGreatDoor.LW
end Go.Proofs.YtodlgbihdehmbaaGreatDoor.LW
namespace Go.Proofs.YtodlgbihdehmbaaGreatDoor.Nd
end Go.Proofs.YtodlgbihdehmbaaGreatDoor.Nd
namespace Go.Proofs.YtodlgbihdehmbaaGreatDoor.Nd.NP
end Go.Proofs.YtodlgbihdehmbaaGreatDoor.Nd.NP
namespace Go.Proofs.YtodlgbihdehmbaaGreatDoor.Nd.NR
end Go.Proofs.YtodlgbihdehmbaaGreatDoor.Nd.NR
namespace Go.Proofs.YtodlgbihdehmbaaGreatDoor.RP
end Go.Proofs.YtodlgbihdehmbaaGreatDoor.RP
namespace Go.Proofs.YtodlgbihdehmbaaGreatDoor.RR
end Go.Proofs.YtodlgbihdehmbaaGreatDoor.RR
set_option linter.unusedSimpArgs false
set_option linter.unusedVariables false
namespace Go.Proofs.YtodlgbihdehmbaaGreatDoor.Nd
/-- An item: the four words of its set, and whether a star stands. -/
structure NI where
  s0 : Nat
  s1 : Nat
  s2 : Nat
  s3 : Nat
  star : Bool
deriving DecidableEq
def NI.word (i : NI) (k : Nat) : Nat := if k = 0 then i.s0 else if k = 1 then i.s1 else if k = 2 then i.s2 else i.s3
/-- Whether an item's atom fits a byte. -/
def ndFits (i : NI) (b : Nat) : Bool := (i.word (b / 64)).testBit (b % 64)
structure NN where
  start : Bool
  fin : Bool
  items : List NI
deriving DecidableEq
/-- Of the places where the items so far can end, those with one item more. -/
def ndStep (t : List Nat) (i : NI) (E : Nat → Bool) : Nat → Bool
  | 0 => i.star && E 0
  | k + 1 => if i.star = true then E (k + 1) || (ndStep t i E k && ndFits i (t.getD k 0)) else E k && ndFits i (t.getD k 0)
def ndEnds (t : List Nat) (E : Nat → Bool) : List NI → Nat → Bool
  | [] => E
  | i :: l => ndEnds t (ndStep t i E) l
def ndE0 (st : Bool) (k : Nat) : Bool := !st || decide (k = 0)
def ndFound (n : NN) (t : List Nat) : Bool :=
  if n.fin = true then ndEnds t (ndE0 n.start) n.items t.length else (List.range (t.length + 1)).any (ndEnds t (ndE0 n.start) n.items)
theorem ndFound_fin {n : NN} {t : List Nat} (h : n.fin = true) : ndFound n t = ndEnds t (ndE0 n.start) n.items t.length := if_pos h
theorem ndFound_any {n : NN} {t : List Nat} (h : n.fin = false) : ndFound n t = true ↔ ∃ k, k ≤ t.length ∧ ndEnds t (ndE0 n.start) n.items k = true := by
  unfold ndFound
  rw [if_neg (by rw [h]; decide), List.any_eq_true]
  exact ⟨fun ⟨k, h1, h2⟩ => ⟨k, by have := List.mem_range.1 h1; omega, h2⟩, fun ⟨k, h1, h2⟩ => ⟨k, List.mem_range.2 (by omega), h2⟩⟩
/-- The item of a byte. -/
def ndOne (b : Nat) : NI := ⟨if b / 64 = 0 then 2 ^ (b % 64) else 0, if b / 64 = 1 then 2 ^ (b % 64) else 0, if b / 64 = 2 then 2 ^ (b % 64) else 0, if b / 64 = 3 then 2 ^ (b % 64) else 0, false⟩
end Go.Proofs.YtodlgbihdehmbaaGreatDoor.Nd
