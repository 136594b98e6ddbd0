/-
  How the document's own Parse goes through a text, as plain functions: what it has met, byte by byte. Nothing of the program is imported.
-/
import Derived.Test.YtodlgbihdehmbaaGreatDoorDecMathZ
set_option linter.unusedSimpArgs false
set_option linter.unusedVariables false
namespace Go.Proofs.YtodlgbihdehmbaaGreatDoor
/-- What was met: digits, points, digits behind a point, the number so far, whether it is far beyond, whether it is rounded up. -/
structure PSt where
  d : Nat
  p : Nat
  b : Nat
  n : Nat
  far : Bool
  up : Bool
def PSt.zero : PSt := ⟨0, 0, 0, 0, false, false⟩
/-- A digit is put behind the number, unless that is far beyond already. -/
def PSt.put (s : PSt) (c : Nat) : PSt := if 1152921504606846976 < s.n then { s with far := true } else { s with n := s.n * 10 + (c - 48) }
def PSt.step (s : PSt) (c : Nat) : Option PSt :=
  if c = 46 then some { s with p := s.p + 1 }
  else if isD c = false then none
  else if s.p = 0 then some (PSt.put { s with d := s.d + 1 } c)
  else if s.b + 1 = 7 then some { s with d := s.d + 1, b := s.b + 1, up := decide (53 ≤ c) }
  else if 6 < s.b + 1 then some { s with d := s.d + 1, b := s.b + 1 }
  else some (PSt.put { s with d := s.d + 1, b := s.b + 1 } c)
def PSt.run : List Nat → PSt → Option PSt
  | [], s => some s
  | c :: l, s => match s.step c with
    | some s' => PSt.run l s'
    | none => none
/-- So many noughts are put behind the number. -/
def PSt.pad : Nat → PSt → PSt
  | 0, s => s
  | k + 1, s => PSt.pad k (s.put 48)
/-- What it comes to: the number, and the refusal. -/
def PSt.fin (s : PSt) (neg : Bool) : Int × Int :=
  if s.d = 0 ∨ 1 < s.p then (0, 2)
  else
    let t := PSt.pad (6 - s.b) s
    let m := if t.up then t.n + 1 else t.n
    if t.far = true ∨ 9223372036854775807 < m then (0, 3) else (if neg then -(m : Int) else (m : Int), 0)
def PSt.all (l : List Nat) (neg : Bool) : Int × Int := match PSt.run l PSt.zero with
  | some s => s.fin neg
  | none => (0, 2)
end Go.Proofs.YtodlgbihdehmbaaGreatDoor
