/-
  Plain facts on numbers with six decimals, for the statements of layer 2: a number is what it stands for in millionths, or nothing. Nothing of the program is imported.
-/
import Derived.Test.YtodlgbihdehmbaaGreatDoorMathBP
namespace Go.Proofs.YtodlgbihdehmbaaGreatDoor
/-- What a number that came in stands for. -/
def rd (b : Bool) (v : Int) : Option Int := if b = false ∧ v ≠ -9223372036854775808 then some v else none
/-- How an answer is laid: whether it is nothing, and its millionths. -/
def nb (o : Option Int) : Bool := o.isNone
def nv (o : Option Int) : Int := o.getD 0
/-- What can be told. -/
def lim (t : Int) : Option Int := if -9223372036854775807 ≤ t ∧ t ≤ 9223372036854775807 then some t else none
def addO (x y : Option Int) : Option Int := match x, y with
  | some a, some b => lim (a + b)
  | _, _ => none
def negO (x : Option Int) : Option Int := match x with
  | some a => some (-a)
  | none => none
theorem rd_some {b : Bool} {v : Int} (h : b = false) (h2 : v ≠ -9223372036854775808) : rd b v = some v := if_pos ⟨h, h2⟩
theorem rd_none {b : Bool} {v : Int} (h : ¬ (b = false ∧ v ≠ -9223372036854775808)) : rd b v = none := if_neg h
theorem lim_in {t : Int} (h : -9223372036854775807 ≤ t ∧ t ≤ 9223372036854775807) : lim t = some t := if_pos h
theorem lim_out {t : Int} (h : ¬ (-9223372036854775807 ≤ t ∧ t ≤ 9223372036854775807)) : lim t = none := if_neg h

end Go.Proofs.YtodlgbihdehmbaaGreatDoor
